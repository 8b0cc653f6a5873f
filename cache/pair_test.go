package cache_test

import (
	"bytes"
	"encoding/binary"
	"fmt"
	"slices"
	"testing"

	"ledgerstone/api"
	"ledgerstone/cache"
	"ledgerstone/disk"
	"ledgerstone/volume"
)

// filled is a block of one byte.
func filled(b byte) []byte {
	return bytes.Repeat([]byte{b}, 4096)
}

// mixed is blocks of bytes that hang on tag; no two sectors of any are alike, nor those of two tags.
func mixed(tag, blocks int) []byte {
	out := make([]byte, 4096*blocks)
	x := uint64(tag)*0x9e3779b97f4a7c15 + 0xd1b54a32d192ed03
	for at := 0; at < len(out); at += 8 {
		x ^= x >> 29
		x *= 0xbf58476d1ce4e5b9
		x ^= x >> 32
		x += uint64(at)
		binary.BigEndian.PutUint64(out[at:], x)
	}
	return out
}

func image(block int, data []byte) api.Image {
	return api.Image{Block: block, Data: data}
}

// formatted is a disk behind Format whose data blocks have unlike bytes.
func formatted(t *testing.T, blocks int) *disk.Disk {
	t.Helper()
	d, err := disk.Load(mixed(blocks, blocks))
	if err != api.OK {
		t.Fatal(blocks, err)
	}
	if err := volume.Format(d); err != api.OK {
		t.Fatal(blocks, err)
	}
	return d.Copy()
}

func mount(t *testing.T, d *disk.Disk) *volume.Volume {
	t.Helper()
	v, err := volume.Mount(d)
	if err != api.OK || v == nil {
		t.Fatal("not mounted", err)
	}
	return v
}

// newCache is a cache of v, which New must answer.
func newCache(t *testing.T, v *volume.Volume, room int) *cache.Cache {
	t.Helper()
	c, err := cache.New(v, room)
	if err != api.OK || c == nil {
		t.Fatal("no cache", room, err)
	}
	return c
}

// fresh is a cache of so many slots, its volume and its disk.
func fresh(t *testing.T, blocks, room int) (*cache.Cache, *volume.Volume, *disk.Disk) {
	t.Helper()
	d := formatted(t, blocks)
	v := mount(t, d)
	return newCache(t, v, room), v, d
}

// side is a cache, or the model, with its volume and its disk.
type side struct {
	face
	volume *volume.Volume
	disk   *disk.Disk
}

// answer is what a call told.
type answer struct {
	data   []byte
	number int
	err    api.Errno
}

// call is something that is done on a side.
type call struct {
	name string
	do   func(s side) answer
}

func load(n int) call {
	return call{fmt.Sprint("Load ", n), func(s side) answer {
		b, err := s.Load(n)
		return answer{data: b, err: err}
	}}
}

// told is a call that answers an error alone.
func told(name string, do func(s side) api.Errno) call {
	return call{name, func(s side) answer { return answer{err: do(s)} }}
}

func pin(n int) call {
	return told(fmt.Sprint("Pin ", n), func(s side) api.Errno { return s.Pin(n) })
}

func unpin(n int) call {
	return told(fmt.Sprint("Unpin ", n), func(s side) api.Errno { return s.Unpin(n) })
}

func put(n int, b []byte) call {
	return told(fmt.Sprint("Put ", n, " ", len(b)), func(s side) api.Errno { return s.Put(n, b) })
}

func drop(n int) call {
	return told(fmt.Sprint("Drop ", n), func(s side) api.Errno { return s.Drop(n) })
}

func commit() call {
	return call{"Commit", func(s side) answer {
		n, err := s.Commit()
		return answer{number: n, err: err}
	}}
}

// What others do with the volume and the disk, which the cache shares.

func volumeCommit(l []api.Image) call {
	return call{fmt.Sprint("volume's Commit ", len(l)), func(s side) answer {
		n, err := s.volume.Commit(l)
		return answer{number: n, err: err}
	}}
}

func checkpoint() call {
	return told("volume's Checkpoint", func(s side) api.Errno { return s.volume.Checkpoint() })
}

func sync() call {
	return told("volume's Sync", func(s side) api.Errno { return s.volume.Sync() })
}

func arm(ops int) call {
	return told(fmt.Sprint("Arm ", ops), func(s side) api.Errno { return s.disk.Arm(ops) })
}

func fail(ops int) call {
	return told(fmt.Sprint("Fail ", ops), func(s side) api.Errno { return s.disk.Fail(ops) })
}

// pair is a cache and the model, each of a volume and a disk of its own.
type pair struct {
	real, want side
	model      *model
}

// open is a cache of so many slots, and the model, over disks that are alike.
func open(t *testing.T, blocks, room int) pair {
	t.Helper()
	d := formatted(t, blocks)
	p := pair{real: side{disk: d.Copy()}, want: side{disk: d.Copy()}}
	p.real.volume, p.want.volume = mount(t, p.real.disk), mount(t, p.want.disk)
	return p.again(t, room)
}

// again is a new cache and a new model of the same two volumes.
func (p pair) again(t *testing.T, room int) pair {
	t.Helper()
	p.real.face = newCache(t, p.real.volume, room)
	p.model = newModel(p.want.volume, room)
	p.want.face = p.model
	return p
}

// ask has both sides do c, and holds what they answer, and what they tell then, against each other.
func (p pair) ask(t *testing.T, c call, what ...any) answer {
	t.Helper()
	got, want := c.do(p.real), c.do(p.want)
	if got.err != want.err || got.number != want.number {
		t.Fatal(c.name, "answered", got.number, int(got.err), "wanted", want.number, int(want.err), what)
	}
	if !bytes.Equal(got.data, want.data) {
		t.Fatal(c.name, "answered other bytes", len(got.data), what)
	}
	p.same(t, c.name, what)
	return got
}

func (p pair) askAll(t *testing.T, calls ...call) {
	t.Helper()
	for i, c := range calls {
		p.ask(t, c, i)
	}
}

// gets is that both sides answer that error to c.
func (p pair) gets(t *testing.T, c call, want api.Errno, what ...any) {
	t.Helper()
	if a := p.ask(t, c, what...); a.err != want {
		t.Fatal(c.name, int(a.err), "wanted", int(want), what)
	}
}

// same is that both sides tell the same blocks, and that as much came to the volumes and the disks.
func (p pair) same(t *testing.T, what ...any) {
	t.Helper()
	for i, of := range []func(f face) []int{face.Held, face.Dirty, face.Pinned} {
		if got, want := of(p.real), of(p.want); !slices.Equal(got, want) {
			t.Fatal([]string{"Held", "Dirty", "Pinned"}[i], got, "wanted", want, what)
		}
	}
	if p.real.volume.Next() != p.want.volume.Next() || p.real.volume.Broken() != p.want.volume.Broken() || p.real.disk.Writes() != p.want.disk.Writes() {
		t.Fatal("the volume", p.real.volume.Next(), p.real.volume.Broken(), p.real.disk.Writes(), what)
	}
}

// sameDisks is that both disks stand alike, and would lose the same.
func (p pair) sameDisks(t *testing.T, what ...any) {
	t.Helper()
	if !slices.Equal(p.real.disk.Pending(), p.want.disk.Pending()) || !bytes.Equal(p.real.disk.Image(), p.want.disk.Image()) {
		t.Fatal("other blocks came to the disk", what)
	}
}

// lists is that c tells these blocks.
func lists(t *testing.T, c face, held, dirty, pinned []int, what ...any) {
	t.Helper()
	if !slices.Equal(c.Held(), held) || !slices.Equal(c.Dirty(), dirty) || !slices.Equal(c.Pinned(), pinned) {
		t.Fatal("held", c.Held(), "dirty", c.Dirty(), "pinned", c.Pinned(), "wanted", held, dirty, pinned, what)
	}
}

// holds is that c has just these blocks.
func holds(t *testing.T, c face, want ...int) {
	t.Helper()
	if !slices.Equal(c.Held(), want) {
		t.Fatal("held", c.Held(), "wanted", want)
	}
}

// loads is that Load of each of these blocks answers no error, one behind the other.
func loads(t *testing.T, c face, blocks ...int) {
	t.Helper()
	for _, n := range blocks {
		if b, err := c.Load(n); len(b) != 4096 || err != api.OK {
			t.Fatal("Load", n, len(b), int(err))
		}
	}
}

// tells is that Load of block n tells want.
func tells(t *testing.T, c face, n int, want []byte, what ...any) {
	t.Helper()
	if b, err := c.Load(n); err != api.OK || !bytes.Equal(b, want) {
		t.Fatal("Load", n, int(err), "or other bytes", what)
	}
}

// refused is that Load of block n is answered so, and nothing else.
func refused(t *testing.T, c face, n int, want api.Errno, what ...any) {
	t.Helper()
	if b, err := c.Load(n); b != nil || err != want {
		t.Fatal("Load", n, len(b), int(err), "wanted", int(want), what)
	}
}

// is that err is want.
func is(t *testing.T, err, want api.Errno, what ...any) {
	t.Helper()
	if err != want {
		t.Fatal(int(err), "wanted", int(want), what)
	}
}

// commits is that Commit answers that number and error.
func commits(t *testing.T, c face, seq int, want api.Errno, what ...any) {
	t.Helper()
	if n, err := c.Commit(); n != seq || err != want {
		t.Fatal("Commit", n, int(err), "wanted", seq, int(want), what)
	}
}

// span is count numbers from first on.
func span(first, count int) []int {
	var out []int
	for i := range count {
		out = append(out, first+i)
	}
	return out
}
