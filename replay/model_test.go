package replay_test

import (
	"bytes"
	"encoding/binary"
	"hash/crc32"
	"math/rand"
	"slices"
	"testing"

	"ledgerstone/api"
	"ledgerstone/disk"
	"ledgerstone/layout"
)

// sizes of disks that have a layout.
var sizes = []int{64, 65, 79, 80, 127, 128, 135, 136, 255, 256, 264, 511, 512}

// S is the super of 64 blocks, as the chapter's examples name it.
func S(epoch, seq int) api.Super {
	return api.Super{Blocks: 64, Epoch: epoch, Seq: seq}
}

// superBytes is a superblock's bytes by chapter 3's words; s need not be right.
func superBytes(s api.Super) []byte {
	b := []byte("LEDGER01")
	for _, v := range []int{s.Blocks, s.Epoch, s.Seq, s.Tail} {
		b = binary.BigEndian.AppendUint64(b, uint64(v))
	}
	b = binary.BigEndian.AppendUint32(b, crc32.Checksum(b, crc32.MakeTable(crc32.Castagnoli)))
	return append(b, make([]byte, 4096-len(b))...)
}

// filled is a block of one byte.
func filled(b byte) []byte {
	return bytes.Repeat([]byte{b}, 4096)
}

// mixed is blocks of bytes that hang on tag; no two sectors of any are alike.
func mixed(tag, blocks int) []byte {
	b := make([]byte, 4096*blocks)
	rand.New(rand.NewSource(int64(tag))).Read(b)
	return b
}

func image(block int, data []byte) api.Image {
	return api.Image{Block: block, Data: data}
}

func group(images ...api.Image) api.Group {
	return api.Group{Epoch: 1, Seq: 1, Images: images}
}

// sameImages is whether two lists have the same images.
func sameImages(a, b []api.Image) bool {
	return slices.EqualFunc(a, b, func(a, b api.Image) bool {
		return a.Block == b.Block && bytes.Equal(a.Data, b.Data)
	})
}

func sameGroups(a, b []api.Group) bool {
	return slices.EqualFunc(a, b, func(a, b api.Group) bool {
		return a.Epoch == b.Epoch && a.Seq == b.Seq && sameImages(a.Images, b.Images)
	})
}

// copyImages is the same images in memory of their own.
func copyImages(images []api.Image) []api.Image {
	out := slices.Clone(images)
	for i := range out {
		out[i].Data = bytes.Clone(out[i].Data)
	}
	return out
}

func copyGroups(groups []api.Group) []api.Group {
	out := slices.Clone(groups)
	for i := range out {
		out[i].Images = copyImages(out[i].Images)
	}
	return out
}

// blocksOf is the blocks of images, in order.
func blocksOf(images []api.Image) []int {
	var out []int
	for _, i := range images {
		out = append(out, i.Block)
	}
	return out
}

func newDisk(t *testing.T, blocks int) *disk.Disk {
	t.Helper()
	d, err := disk.New(blocks)
	if err != api.OK {
		t.Fatal(blocks, err)
	}
	return d
}

func load(t *testing.T, image []byte) *disk.Disk {
	t.Helper()
	d, err := disk.Load(image)
	if err != api.OK {
		t.Fatal(len(image), err)
	}
	return d
}

func layoutOf(t *testing.T, blocks int) api.Layout {
	t.Helper()
	l, err := layout.Of(blocks)
	if err != api.OK {
		t.Fatal(blocks, err)
	}
	return l
}

// read is block n of d.
func read(t *testing.T, d *disk.Disk, n int) []byte {
	t.Helper()
	b, err := d.Read(n)
	if err != api.OK {
		t.Fatal(n, err)
	}
	return b
}

// lasts is what is left of d behind a crash that keeps nothing.
func lasts(d *disk.Disk) []byte {
	c := d.Copy()
	c.Crash(nil, -1, 0)
	return c.Image()
}

// operation is a write, or, without data, a flush.
type operation struct {
	block int
	data  []byte
}

// operations is all that Do does, by the chapter's words.
func operations(images []api.Image, s api.Super, slot int) []operation {
	var ops []operation
	for _, i := range images {
		ops = append(ops, operation{i.Block, i.Data})
	}
	return append(ops, operation{}, operation{slot, superBytes(s)}, operation{})
}

// state is what a disk keeps and what it would lose.
type state struct {
	durable   []byte
	unflushed []operation
}

// done is the state of a disk whose bytes last, behind these operations.
func done(image []byte, ops []operation) state {
	s := state{durable: bytes.Clone(image)}
	for _, op := range ops {
		if op.data != nil {
			s.unflushed = append(s.unflushed, op)
			continue
		}
		s.durable = s.standing()
		s.unflushed = nil
	}
	return s
}

// standing is all blocks with all unflushed writes.
func (s state) standing() []byte {
	out := bytes.Clone(s.durable)
	for _, op := range s.unflushed {
		copy(out[op.block*4096:], op.data)
	}
	return out
}

// isOn is that d is in that state.
func (s state) isOn(t *testing.T, d *disk.Disk, what ...any) {
	t.Helper()
	var pending []int
	for _, op := range s.unflushed {
		pending = append(pending, op.block)
	}
	if got := d.Pending(); !slices.Equal(got, pending) {
		t.Fatal("unflushed", got, "wanted", pending, what)
	}
	if !bytes.Equal(d.Image(), s.standing()) {
		t.Fatal("other blocks stand", what)
	}
	if !bytes.Equal(lasts(d), s.durable) {
		t.Fatal("other blocks last", what)
	}
}
