package journal_test

import (
	"bytes"
	"slices"
	"testing"

	"ledgerstone/api"
	"ledgerstone/disk"
	"ledgerstone/journal"
	"ledgerstone/layout"
	"ledgerstone/record"
)

// group is a group of the model, and the places that are its own.
type group struct {
	seq    int
	places []int
	blocks [][]byte
}

// model is a journal as the chapter's words have it, place by place, on a disk of its own.
type model struct {
	disk                *disk.Disk
	log, size           int
	epoch, next, synced int
	at                  int // the place that is taken next
	held                int
	groups              []group
	broken              bool
}

func (m *model) free() int {
	n := m.size - m.held
	for _, g := range m.groups {
		n -= len(g.places)
	}
	return n
}

// blocksFor is one more than images, by the words of chapter 6, and 0 of a number that may not be.
func blocksFor(images int) int {
	for n := 1; n <= 32; n++ {
		if n == images {
			return n + 1
		}
	}
	return 0
}

func (m *model) Reserve(images int) api.Errno {
	blocks := blocksFor(images)
	switch {
	case m.broken:
		return api.ErrIO
	case blocks == 0:
		return api.ErrArg
	case blocks > m.size:
		return api.ErrLogFull
	case blocks > m.free():
		return api.ErrFull
	}
	m.held += blocks
	return api.OK
}

func (m *model) Cancel(images int) api.Errno {
	blocks := blocksFor(images)
	switch {
	case m.broken:
		return api.ErrIO
	case blocks == 0, blocks > m.held:
		return api.ErrArg
	}
	m.held -= blocks
	return api.OK
}

// right is whether l may be a group's images, by the words of chapter 6.
func (m *model) right(l []api.Image) bool {
	seen := make(map[int]int)
	for _, image := range l {
		seen[image.Block]++
		if image.Block < 0 || image.Block > 511 || len(image.Data) != 4096 {
			return false
		}
	}
	return len(l) >= 1 && len(l) <= 32 && len(seen) == len(l) && m.next <= 1<<39
}

func (m *model) Append(l []api.Image, reserved bool) (int, api.Errno) {
	blocks := blocksFor(len(l))
	switch {
	case m.broken:
		return 0, api.ErrIO
	case !m.right(l):
		return 0, api.ErrGroup
	case blocks > m.size:
		return 0, api.ErrLogFull
	case reserved && blocks > m.held:
		return 0, api.ErrArg
	case !reserved && blocks > m.free():
		return 0, api.ErrFull
	}
	g := group{seq: m.next}
	g.blocks, _ = record.Put(api.Group{Epoch: m.epoch, Seq: m.next, Images: l})
	place := m.at
	for _, b := range g.blocks {
		if err := m.disk.Write(m.log+place, b); err != api.OK {
			m.broken = true
			return 0, err
		}
		g.places = append(g.places, place)
		if place++; place == m.size {
			place = 0
		}
	}
	if reserved {
		m.held -= blocks
	}
	m.at = place
	m.groups = append(m.groups, g)
	m.next++
	return g.seq, api.OK
}

func (m *model) Flush() api.Errno {
	if m.broken {
		return api.ErrIO
	}
	if err := m.disk.Flush(); err != api.OK {
		m.broken = true
		return err
	}
	m.synced = m.next - 1
	return api.OK
}

func (m *model) Release(seq int) api.Errno {
	switch {
	case m.broken:
		return api.ErrIO
	case seq > m.synced:
		return api.ErrArg
	}
	for len(m.groups) > 0 && m.groups[0].seq <= seq {
		m.groups = m.groups[1:]
	}
	return api.OK
}

func (m *model) Next() int    { return m.next }
func (m *model) Synced() int  { return m.synced }
func (m *model) Broken() bool { return m.broken }

func (m *model) Tail() (int, int) {
	if len(m.groups) == 0 {
		return m.at, m.next
	}
	return m.groups[0].places[0], m.groups[0].seq
}

func (m *model) Groups() []int {
	var out []int
	for _, g := range m.groups {
		out = append(out, g.seq)
	}
	return out
}

func (m *model) Ring() api.Ring {
	tail, _ := m.Tail()
	return api.Ring{Size: m.size, Tail: tail, Used: m.size - m.held - m.free(), Held: m.held}
}

// face is what a journal and the model are both asked.
type face interface {
	Reserve(images int) api.Errno
	Cancel(images int) api.Errno
	Append(l []api.Image, reserved bool) (int, api.Errno)
	Flush() api.Errno
	Release(seq int) api.Errno
	Next() int
	Synced() int
	Tail() (int, int)
	Groups() []int
	Ring() api.Ring
	Broken() bool
}

// call is something that is asked of a journal, which has that disk.
type call struct {
	name string
	do   func(f face, d *disk.Disk) (int, api.Errno)
}

func reserve(images int) call {
	return call{"Reserve", func(f face, _ *disk.Disk) (int, api.Errno) { return images, f.Reserve(images) }}
}

func cancel(images int) call {
	return call{"Cancel", func(f face, _ *disk.Disk) (int, api.Errno) { return images, f.Cancel(images) }}
}

func add(l []api.Image, reserved bool) call {
	return call{"Append", func(f face, _ *disk.Disk) (int, api.Errno) { return f.Append(l, reserved) }}
}

func put(images int) call { return add(some(images), false) }

func putHeld(images int) call { return add(some(images), true) }

func flush() call {
	return call{"Flush", func(f face, _ *disk.Disk) (int, api.Errno) { return 0, f.Flush() }}
}

func release(seq int) call {
	return call{"Release", func(f face, _ *disk.Disk) (int, api.Errno) { return seq, f.Release(seq) }}
}

// arm and fail have the disk stop an operation.
func arm(ops int) call {
	return call{"Arm", func(_ face, d *disk.Disk) (int, api.Errno) { return ops, d.Arm(ops) }}
}

func fail(ops int) call {
	return call{"Fail", func(_ face, d *disk.Disk) (int, api.Errno) { return ops, d.Fail(ops) }}
}

// pair is a journal and the model, each on a disk of its own.
type pair struct {
	journal *journal.Journal
	disk    *disk.Disk
	model   *model
}

func newDisk(t *testing.T, blocks int) (*disk.Disk, api.Layout) {
	t.Helper()
	d, err := disk.New(blocks)
	if err != api.OK {
		t.Fatal(blocks, err)
	}
	l, err := layout.Of(blocks)
	if err != api.OK {
		t.Fatal(blocks, err)
	}
	return d, l
}

func open(t *testing.T, blocks, epoch, seq, tail int) pair {
	t.Helper()
	d, l := newDisk(t, blocks)
	j, err := journal.Open(d, l, epoch, seq, tail)
	if err != api.OK {
		t.Fatal(blocks, epoch, seq, tail, err)
	}
	return pair{j, d, &model{disk: d.Copy(), log: l.Log, size: l.LogBlocks, epoch: epoch, next: seq, synced: seq - 1, at: tail}}
}

// ask has the journal and the model do c, and holds what they answer, and all that they tell then, against each other.
func (p pair) ask(t *testing.T, c call) api.Errno {
	t.Helper()
	got, err := c.do(p.journal, p.disk)
	want, wantErr := c.do(p.model, p.model.disk)
	if got != want || err != wantErr {
		t.Fatalf("%s: %d, %d; want %d, %d; behind %v", c.name, got, err, want, wantErr, p.model.Ring())
	}
	p.same(t, c.name)
	return err
}

func (p pair) askAll(t *testing.T, calls []call) {
	t.Helper()
	for _, c := range calls {
		p.ask(t, c)
	}
}

// same is that the journal tells what the model does, and so do their disks, without their bytes.
func (p pair) same(t *testing.T, name string) {
	t.Helper()
	j, m := p.journal, p.model
	at, first := j.Tail()
	wantAt, wantFirst := m.Tail()
	if at != wantAt || first != wantFirst {
		t.Fatalf("%s: Tail %d, %d; want %d, %d", name, at, first, wantAt, wantFirst)
	}
	if j.Next() != m.Next() || j.Synced() != m.Synced() || j.Broken() != m.Broken() || j.Ring() != m.Ring() || !slices.Equal(j.Groups(), m.Groups()) {
		t.Fatalf("%s: %d, %d, %t, %v, %v; want %d, %d, %t, %v, %v", name, j.Next(), j.Synced(), j.Broken(), j.Ring(), j.Groups(), m.Next(), m.Synced(), m.Broken(), m.Ring(), m.Groups())
	}
	if !slices.Equal(p.disk.Pending(), m.disk.Pending()) || p.disk.Writes() != m.disk.Writes() {
		t.Fatalf("%s: writes %v, %d in all; want %v, %d", name, p.disk.Pending(), p.disk.Writes(), m.disk.Pending(), m.disk.Writes())
	}
}

// sameBytes is that both disks have the same blocks.
func (p pair) sameBytes(t *testing.T, name string) {
	t.Helper()
	if !bytes.Equal(p.disk.Image(), p.model.disk.Image()) {
		t.Fatalf("%s: the disk has other blocks", name)
	}
}

// powered is d, or, if its power is gone, its blocks on a disk that can be read.
func powered(d *disk.Disk) *disk.Disk {
	if _, err := d.Read(0); err == api.OK {
		return d
	}
	d, _ = disk.Load(d.Image())
	return d
}

// stand is that no two groups of the model share a place, and that each stands whole in the journal's disk.
func (p pair) stand(t *testing.T, name string) {
	t.Helper()
	owner := make(map[int]int)
	d := powered(p.disk)
	for _, g := range p.model.groups {
		for i, place := range g.places {
			if other, there := owner[place]; there {
				t.Fatalf("%s: place %d is of groups %d and %d", name, place, other, g.seq)
			}
			owner[place] = g.seq
			if b, err := d.Read(p.model.log + place); err != api.OK || !bytes.Equal(b, g.blocks[i]) {
				t.Fatalf("%s: block %d of group %d is not there (%d)", name, i, g.seq, err)
			}
		}
	}
}

// some is n images of unlike blocks and unlike bytes.
func some(n int) []api.Image { return someOf(n, 0) }

// someOf is n images that are unlike those of another mark.
func someOf(n, mark int) []api.Image {
	var l []api.Image
	for i := range n {
		data := make([]byte, 4096)
		for at := range data {
			data[at] = byte(at*7 + at/256 + i*31 + mark*101 + 1)
		}
		l = append(l, api.Image{Block: (mark*5 + i*3 + 30) % 512, Data: data})
	}
	return l
}
