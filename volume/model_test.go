package volume_test

import (
	"bytes"
	"encoding/binary"
	"hash/crc32"
	"maps"
	"slices"

	"ledgerstone/api"
	"ledgerstone/disk"
	"ledgerstone/record"
)

// superBytes is a superblock's bytes by chapter 3's words; s need not be right.
func superBytes(s api.Super) []byte {
	b := []byte("LEDGER01")
	for _, v := range []int{s.Blocks, s.Epoch, s.Seq, s.Tail} {
		b = binary.BigEndian.AppendUint64(b, uint64(v))
	}
	b = binary.BigEndian.AppendUint32(b, crc32.Checksum(b, crc32.MakeTable(crc32.Castagnoli)))
	return append(b, make([]byte, 4096-len(b))...)
}

// superOf is what a superblock says, by chapter 3's words.
func superOf(b []byte) (api.Super, bool) {
	var v [4]int
	for i := range v {
		v[i] = int(binary.BigEndian.Uint64(b[8+8*i:]))
	}
	s := api.Super{Blocks: v[0], Epoch: v[1], Seq: v[2], Tail: v[3]}
	right := 64 <= v[0] && v[0] <= 512 && 1 <= v[1] && v[1] <= 1<<23 && 1 <= v[2] && v[2] <= 1<<39 && 0 <= v[3] && v[3] <= 511
	return s, right && bytes.Equal(b, superBytes(s))
}

// layoutOf is the layout of so many blocks by chapter 5's words.
func layoutOf(blocks int) api.Layout {
	l := api.Layout{Blocks: blocks, Log: 2, LogBlocks: max(16, blocks/8), InodeBlocks: blocks / 16}
	l.Bits = 2 + l.LogBlocks
	l.Inodes = l.Bits + 1
	l.Data = l.Inodes + l.InodeBlocks
	return l
}

// block is block n of an image.
func block(image []byte, n int) []byte {
	return image[4096*n : 4096*(n+1)]
}

// counting is the super that counts on a disk of these bytes, and its slot, by chapter 10's words; -1, if none does.
func counting(image []byte) (api.Super, int) {
	a, isA := superOf(block(image, 0))
	b, isB := superOf(block(image, 1))
	switch {
	case !isA && !isB:
		return api.Super{}, -1
	case !isB:
		return a, 0
	case !isA:
		return b, 1
	case b.Epoch > a.Epoch, b.Epoch == a.Epoch && b.Seq > a.Seq:
		return b, 1
	}
	return a, 0
}

// groupsOf is the groups that the ring of a disk of these bytes has by s, and the place behind them, by chapter 9's words.
func groupsOf(image []byte, s api.Super) ([]api.Group, int) {
	l := layoutOf(s.Blocks)
	var groups []api.Group
	place, left := s.Tail, l.LogBlocks
	for {
		var blocks [][]byte
		images := 0
		for i := 0; i <= images && i < left; i++ {
			blocks = append(blocks, block(image, l.Log+(place+i)%l.LogBlocks))
			if i == 0 {
				_, _, images, _ = record.Head(blocks[0])
			}
		}
		g, err := record.Get(blocks)
		if err != api.OK || g.Epoch != s.Epoch || g.Seq != s.Seq+len(groups) {
			return groups, place
		}
		groups = append(groups, g)
		place, left = (place+len(blocks))%l.LogBlocks, left-len(blocks)
	}
}

// model is a volume as the chapter's words have it, on a disk of its own.
type model struct {
	disk                *disk.Disk
	layout              api.Layout
	epoch, next, synced int
	at, used            int // the place of the next group, and how many places are taken
	committed           map[int][]byte
	broken              bool
}

// do writes the images by rising blocks, flushes, writes s, flushes: chapter 10's words.
func do(d *disk.Disk, last map[int][]byte, s api.Super, slot int) api.Errno {
	if s.Seq > 1<<39 {
		return api.ErrArg
	}
	for _, n := range slices.Sorted(maps.Keys(last)) {
		if err := d.Write(n, last[n]); err != api.OK {
			return err
		}
	}
	if err := d.Flush(); err != api.OK {
		return err
	}
	if err := d.Write(slot, superBytes(s)); err != api.OK {
		return err
	}
	return d.Flush()
}

// modelMount is Mount by P11.2's words.
func modelMount(d *disk.Disk) (*model, api.Errno) {
	if d.Size() < 64 {
		return nil, api.ErrImage
	}
	if _, err := d.Read(0); err != api.OK {
		return nil, err
	}
	l := layoutOf(d.Size())
	image := d.Image()
	s, slot := counting(image)
	if slot < 0 || s.Blocks != l.Blocks || s.Tail >= l.LogBlocks || s.Epoch >= 1<<23 {
		return nil, api.ErrImage
	}
	groups, place := groupsOf(image, s)
	if s.Seq+len(groups) > 1<<39 {
		return nil, api.ErrImage
	}
	last := make(map[int][]byte)
	for _, g := range groups {
		for _, i := range g.Images {
			if i.Block < l.Bits || i.Block >= l.Blocks {
				return nil, api.ErrImage
			}
			last[i.Block] = i.Data
		}
	}
	next := api.Super{Blocks: l.Blocks, Epoch: s.Epoch + 1, Seq: s.Seq + len(groups), Tail: place}
	if err := do(d, last, next, 1-slot); err != api.OK {
		return nil, err
	}
	return &model{disk: d, layout: l, epoch: next.Epoch, next: next.Seq, synced: next.Seq - 1, at: place, committed: map[int][]byte{}}, api.OK
}

func (m *model) Layout() api.Layout { return m.layout }
func (m *model) Next() int          { return m.next }
func (m *model) Synced() int        { return m.synced }
func (m *model) Broken() bool       { return m.broken }

func (m *model) Fits(images int) bool {
	return images >= 1 && images <= 32 && images < m.layout.LogBlocks
}

func (m *model) Read(n int) ([]byte, api.Errno) {
	switch {
	case m.broken:
		return nil, api.ErrIO
	case n < 0 || n >= m.layout.Blocks:
		return nil, api.ErrBlock
	case m.committed[n] != nil:
		return bytes.Clone(m.committed[n]), api.OK
	}
	return m.disk.Read(n)
}

// wrong is why l can't be committed, by the order of the section 'Errors'.
func (m *model) wrong(l []api.Image) api.Errno {
	if m.broken {
		return api.ErrIO
	}
	seen := make(map[int]int)
	for _, i := range l {
		if i.Block < m.layout.Bits || i.Block >= m.layout.Blocks {
			return api.ErrBlock
		}
		seen[i.Block]++
	}
	for _, i := range l {
		if len(i.Data) != 4096 || seen[i.Block] > 1 {
			return api.ErrGroup
		}
	}
	switch {
	case len(l) == 0 || len(l) > 32:
		return api.ErrGroup
	case !m.Fits(len(l)):
		return api.ErrLogFull
	}
	return api.OK
}

// breaks is err, which breaks m.
func (m *model) breaks(err api.Errno) api.Errno {
	m.broken = true
	return err
}

func (m *model) Commit(l []api.Image) (int, api.Errno) {
	if err := m.wrong(l); err != api.OK {
		return 0, err
	}
	if m.used+len(l)+1 > m.layout.LogBlocks {
		if err := m.Checkpoint(); err != api.OK {
			return 0, err
		}
	}
	blocks, err := record.Put(api.Group{Epoch: m.epoch, Seq: m.next, Images: l})
	if err != api.OK { // the numbers have come to their end
		return 0, m.breaks(err)
	}
	for i, b := range blocks {
		if err := m.disk.Write(m.layout.Log+(m.at+i)%m.layout.LogBlocks, b); err != api.OK {
			return 0, m.breaks(err)
		}
	}
	for _, i := range l {
		m.committed[i.Block] = bytes.Clone(i.Data)
	}
	m.at = (m.at + len(blocks)) % m.layout.LogBlocks
	m.used += len(blocks)
	m.next++
	return m.next - 1, api.OK
}

func (m *model) Sync() api.Errno {
	if m.broken {
		return api.ErrIO
	}
	if err := m.disk.Flush(); err != api.OK {
		return m.breaks(err)
	}
	m.synced = m.next - 1
	return api.OK
}

func (m *model) Checkpoint() api.Errno {
	if err := m.Sync(); err != api.OK {
		return err
	}
	_, slot := counting(m.disk.Image())
	s := api.Super{Blocks: m.layout.Blocks, Epoch: m.epoch, Seq: m.next, Tail: m.at}
	if err := do(m.disk, m.committed, s, 1-slot); err != api.OK {
		return m.breaks(err)
	}
	m.used = 0
	clear(m.committed)
	return api.OK
}
