package volume_test

import (
	"bytes"
	"encoding/binary"
	"fmt"
	"slices"
	"testing"

	"ledgerstone/api"
	"ledgerstone/disk"
	"ledgerstone/volume"
)

// sizes of disks that have a layout; from 264 blocks on a ring takes a group of 32 images.
var sizes = []int{64, 65, 127, 128, 135, 136, 255, 256, 263, 264, 272, 511, 512}

// filled is a block of one byte.
func filled(b byte) []byte {
	return bytes.Repeat([]byte{b}, 4096)
}

// mixed is blocks of bytes that hang on tag; no two sectors of any are alike, nor those of two tags.
func mixed(tag, blocks int) []byte {
	out := make([]byte, 4096*blocks)
	x := uint64(tag)*0x9e3779b97f4a7c15 + 0xd1b54a32d192ed03
	for at := 0; at < len(out); at += 8 {
		x ^= x >> 29
		x *= 0xbf58476d1ce4e5b9
		x ^= x >> 32
		x += uint64(at)
		binary.BigEndian.PutUint64(out[at:], x)
	}
	return out
}

func image(block int, data []byte) api.Image {
	return api.Image{Block: block, Data: data}
}

// some is count images of unlike blocks from first on, whose bytes hang on tag.
func some(tag, first, count int) []api.Image {
	var l []api.Image
	for i := range count {
		l = append(l, image(first+i, mixed(1000*tag+i, 1)))
	}
	return l
}

func newDisk(t *testing.T, blocks int) *disk.Disk {
	t.Helper()
	d, err := disk.New(blocks)
	if err != api.OK {
		t.Fatal(blocks, err)
	}
	return d
}

func load(t *testing.T, image []byte) *disk.Disk {
	t.Helper()
	d, err := disk.Load(image)
	if err != api.OK {
		t.Fatal(len(image), err)
	}
	return d
}

// formatted is a disk behind Format that had other bytes ahead of it.
func formatted(t *testing.T, blocks int) *disk.Disk {
	t.Helper()
	d := load(t, mixed(blocks, blocks))
	if err := volume.Format(d); err != api.OK {
		t.Fatal(blocks, err)
	}
	return d.Copy()
}

func mount(t *testing.T, d *disk.Disk) *volume.Volume {
	t.Helper()
	v, err := volume.Mount(d)
	if err != api.OK || v == nil {
		t.Fatal("not mounted", err)
	}
	return v
}

// lasts is what is left of d behind a crash that keeps nothing.
func lasts(d *disk.Disk) []byte {
	c := d.Copy()
	c.Crash(nil, -1, 0)
	return c.Image()
}

// face is what a volume and the model are both asked.
type face interface {
	Layout() api.Layout
	Read(n int) ([]byte, api.Errno)
	Commit(l []api.Image) (int, api.Errno)
	Sync() api.Errno
	Checkpoint() api.Errno
	Next() int
	Synced() int
	Fits(images int) bool
	Broken() bool
}

// call is something that is asked of a volume, which has that disk.
type call struct {
	name string
	do   func(f face, d *disk.Disk) (int, api.Errno)
}

func commit(l []api.Image) call {
	return call{fmt.Sprint("Commit ", len(l)), func(f face, _ *disk.Disk) (int, api.Errno) { return f.Commit(l) }}
}

func sync() call {
	return call{"Sync", func(f face, _ *disk.Disk) (int, api.Errno) { return 0, f.Sync() }}
}

func checkpoint() call {
	return call{"Checkpoint", func(f face, _ *disk.Disk) (int, api.Errno) { return 0, f.Checkpoint() }}
}

// arm and fail have the disk stop an operation.
func arm(ops int) call {
	return call{fmt.Sprint("Arm ", ops), func(_ face, d *disk.Disk) (int, api.Errno) { return 0, d.Arm(ops) }}
}

func fail(ops int) call {
	return call{fmt.Sprint("Fail ", ops), func(_ face, d *disk.Disk) (int, api.Errno) { return 0, d.Fail(ops) }}
}

// pair is a volume and the model, each on a disk of its own.
type pair struct {
	volume *volume.Volume
	disk   *disk.Disk
	model  *model
}

// mountPair mounts a copy of d by the program and another one by the model, and holds what came of it against each other; if it is refused, there is no volume.
func mountPair(t *testing.T, d *disk.Disk, what ...any) (pair, api.Errno) {
	t.Helper()
	p := pair{disk: d.Copy()}
	other := d.Copy()
	var err, want api.Errno
	p.volume, err = volume.Mount(p.disk)
	p.model, want = modelMount(other)
	if err != want || (p.volume == nil) != (p.model == nil) {
		t.Fatal("Mount", err, "wanted", want, what)
	}
	sameDisks(t, p.disk, other, what...)
	if err == api.OK {
		p.same(t, what...)
		p.sameBlocks(t, what...)
	}
	return p, err
}

// open is a volume and the model over a disk of so many blocks that was formatted.
func open(t *testing.T, blocks int) pair {
	t.Helper()
	p, err := mountPair(t, formatted(t, blocks), blocks)
	if err != api.OK {
		t.Fatal(blocks, err)
	}
	return p
}

// ask has the volume and the model do c, and holds what they answer, and what they tell then, against each other.
func (p pair) ask(t *testing.T, c call, what ...any) api.Errno {
	t.Helper()
	got, err := c.do(p.volume, p.disk)
	want, wantErr := c.do(p.model, p.model.disk)
	if got != want || err != wantErr {
		t.Fatal(c.name, "answered", got, int(err), "wanted", want, int(wantErr), what)
	}
	p.same(t, c.name, what)
	return err
}

func (p pair) askAll(t *testing.T, calls ...call) {
	t.Helper()
	for i, c := range calls {
		p.ask(t, c, i)
	}
}

// same is that the volume tells the numbers that the model does, and that their disks are alike.
func (p pair) same(t *testing.T, what ...any) {
	t.Helper()
	v, m := p.volume, p.model
	if v.Next() != m.Next() || v.Synced() != m.Synced() || v.Broken() != m.Broken() || v.Layout() != m.Layout() {
		t.Fatal(v.Next(), v.Synced(), v.Broken(), v.Layout(), "wanted", m.Next(), m.Synced(), m.Broken(), m.Layout(), what)
	}
	for _, n := range []int{-1, 0, 1, 15, 16, 31, 32, 33} {
		if v.Fits(n) != m.Fits(n) {
			t.Fatal("Fits", n, v.Fits(n), what)
		}
	}
	sameDisks(t, p.disk, m.disk, what...)
}

// sameBlocks is that the volume tells the blocks that the model does, those that are not there too.
func (p pair) sameBlocks(t *testing.T, what ...any) {
	t.Helper()
	for n := -1; n <= p.model.layout.Blocks; n++ {
		got, err := p.volume.Read(n)
		want, wantErr := p.model.Read(n)
		if err != wantErr || !bytes.Equal(got, want) {
			t.Fatal("Read", n, int(err), "wanted", int(wantErr), "or other bytes", what)
		}
	}
}

// sameDisks is that two disks keep the same, would lose the same, and have carried out as many writes.
func sameDisks(t *testing.T, d, want *disk.Disk, what ...any) {
	t.Helper()
	if !slices.Equal(d.Pending(), want.Pending()) || d.Writes() != want.Writes() {
		t.Fatal("unflushed", d.Pending(), d.Writes(), "wanted", want.Pending(), want.Writes(), what)
	}
	if !bytes.Equal(d.Image(), want.Image()) {
		t.Fatal("other blocks stand", what)
	}
	if !bytes.Equal(lasts(d), lasts(want)) {
		t.Fatal("other blocks last", what)
	}
}
