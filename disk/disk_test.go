package disk_test

import (
	"bytes"
	"math"
	"math/rand"
	"slices"
	"testing"

	"ledgerstone/api"
	"ledgerstone/disk"
)

// filled is a block of one byte.
func filled(b byte) []byte {
	return bytes.Repeat([]byte{b}, 4096)
}

// mixed is blocks of bytes that hang on tag; no two sectors of any are alike.
func mixed(tag, blocks int) []byte {
	b := make([]byte, 4096*blocks)
	rand.New(rand.NewSource(int64(tag))).Read(b)
	return b
}

func newDisk(t *testing.T, blocks int) *disk.Disk {
	t.Helper()
	d, e := disk.New(blocks)
	want(t, e, api.OK, "New", blocks)
	return d
}

func loaded(t *testing.T, image []byte) *disk.Disk {
	t.Helper()
	d, e := disk.Load(image)
	want(t, e, api.OK, "Load", len(image))
	return d
}

func want(t *testing.T, got, wanted api.Errno, what ...any) {
	t.Helper()
	if got != wanted {
		t.Error(append([]any{"got", int(got), "wanted", int(wanted)}, what...)...)
	}
}

func write(t *testing.T, d *disk.Disk, n int, b []byte) {
	t.Helper()
	want(t, d.Write(n, b), api.OK, "Write", n)
}

func flush(t *testing.T, d *disk.Disk) {
	t.Helper()
	want(t, d.Flush(), api.OK, "Flush")
}

// wantBlocks holds d, by Read and by Image, against blocks one behind the other.
func wantBlocks(t *testing.T, d *disk.Disk, blocks []byte, what ...any) {
	t.Helper()
	if !bytes.Equal(d.Image(), blocks) || d.Size() != len(blocks)/4096 {
		t.Error(append([]any{"another image, of blocks", d.Size()}, what...)...)
	}
	for n := range len(blocks) / 4096 {
		b, e := d.Read(n)
		if e != api.OK || !bytes.Equal(b, blocks[4096*n:4096*(n+1)]) {
			t.Error(append([]any{"another block", n, int(e)}, what...)...)
		}
	}
}

func wantPending(t *testing.T, d *disk.Disk, wanted ...int) {
	t.Helper()
	if got := d.Pending(); !slices.Equal(got, wanted) {
		t.Error("pending", got, "wanted", wanted)
	}
}

func wantWrites(t *testing.T, d *disk.Disk, wanted int) {
	t.Helper()
	if got := d.Writes(); got != wanted {
		t.Error("writes", got, "wanted", wanted)
	}
}

// farNumbers are numbers far from any bound, among them such as wrap round to a small one if they are multiplied by a block's bytes.
func farNumbers() []int {
	return []int{math.MinInt, math.MinInt + 1, math.MinInt32, -513, -512, -1, 1 << 16, 1<<31 - 1, 1 << 32, 1<<32 + 1, 1 << 51, 1 << 52, 1<<52 + 1, 1 << 60, 1 << 62, math.MaxInt - 1, math.MaxInt}
}

// P4.1: disks of all sizes that may be are noughts, with nothing unflushed or written.
func TestNewIsNoughts(t *testing.T) {
	for _, blocks := range []int{1, 2, 3, 63, 64, 511, 512} {
		d := newDisk(t, blocks)
		wantBlocks(t, d, make([]byte, 4096*blocks), blocks)
		wantPending(t, d)
		wantWrites(t, d, 0)
	}
}

// P4.1: and no others are made.
func TestNewOfOtherSizesIsRefused(t *testing.T) {
	for _, blocks := range append(farNumbers(), 0, 513, 514, 1024) {
		if d, e := disk.New(blocks); e != api.ErrArg || d != nil {
			t.Error(blocks, d != nil, int(e))
		}
	}
}

// P4.1: a loaded disk has the image's blocks, and all of them are durable.
func TestLoadHasTheImage(t *testing.T) {
	for _, blocks := range []int{1, 2, 3, 64, 511, 512} {
		image := mixed(blocks, blocks)
		d := loaded(t, image)
		wantBlocks(t, d, image, blocks)
		wantPending(t, d)
		wantWrites(t, d, 0)
		want(t, d.Crash(nil, -1, 0), api.OK)
		wantBlocks(t, d, image, "behind a crash", blocks)
	}
}

// P4.1: none, parts of blocks, more than there may be.
func TestLoadOfOtherLengthsIsRefused(t *testing.T) {
	room := make([]byte, 4096*1024)
	for _, length := range []int{1, 2, 511, 512, 513, 4095, 4097, 4096 + 512, 8191, 8193, 4096*512 - 1, 4096*512 + 1, 4096 * 513, 4096*513 + 1, 4096 * 1024} {
		if d, e := disk.Load(room[:length]); e != api.ErrArg || d != nil {
			t.Error(length, d != nil, int(e))
		}
	}
	for _, none := range [][]byte{nil, {}, room[:0]} {
		if d, e := disk.Load(none); e != api.ErrArg || d != nil {
			t.Error("none", d != nil, int(e))
		}
	}
}

// P4.1, P4.2: the first and the last block may be read and written, no other number may.
func TestBlockNumbers(t *testing.T) {
	for _, blocks := range []int{1, 2, 64, 512} {
		d := newDisk(t, blocks)
		for _, n := range append(farNumbers(), -2, -1, blocks, blocks+1, 513) {
			if b, e := d.Read(n); e != api.ErrBlock || b != nil {
				t.Error("Read", blocks, n, len(b), int(e))
			}
			want(t, d.Write(n, filled(1)), api.ErrBlock, "Write", blocks, n)
		}
		wantPending(t, d)
		wantBlocks(t, d, make([]byte, 4096*blocks))
		image := make([]byte, 4096*blocks)
		for _, n := range []int{0, blocks - 1} {
			write(t, d, n, mixed(n, 1))
			copy(image[4096*n:], mixed(n, 1))
		}
		wantPending(t, d, 0, blocks-1)
		wantBlocks(t, d, image)
	}
}

// P4.2: a write has a block's bytes, whatever room lies behind fewer.
func TestWritesOfOtherLengthsAreRefused(t *testing.T) {
	d := newDisk(t, 3)
	room := mixed(1, 3)
	for _, length := range []int{0, 1, 511, 512, 513, 4095, 4097, 8192, 12288} {
		want(t, d.Write(1, room[:length]), api.ErrArg, length)
	}
	want(t, d.Write(1, nil), api.ErrArg, "none")
	want(t, d.Write(1, room[:4095:4096]), api.ErrArg, "a byte too few")
	wantPending(t, d)
	wantWrites(t, d, 0)
	wantBlocks(t, d, make([]byte, 3*4096))
	write(t, d, 1, room[:4096])
}

// P4.1, P4.2: what is read is the last of the unflushed writes of its block; a flush carries them out in order.
func TestWritesOfOneBlockInOrder(t *testing.T) {
	d := loaded(t, mixed(100, 3))
	image := mixed(100, 3)
	written := []int{2, 1, 1, 2, 1, 2, 2}
	for i, n := range written {
		write(t, d, n, mixed(i, 1))
		copy(image[4096*n:], mixed(i, 1))
		wantBlocks(t, d, image, i)
		wantPending(t, d, written[:i+1]...)
		wantWrites(t, d, i+1)
	}
	flush(t, d)
	wantPending(t, d)
	wantWrites(t, d, len(written))
	wantBlocks(t, d, image, "flushed")
	want(t, d.Crash(nil, -1, 0), api.OK)
	wantBlocks(t, d, image, "crashed")
	flush(t, d)
	wantBlocks(t, d, image, "flushed with nothing unflushed")
}

// P4.1: Writes counts the Writes that were carried out: not those refused or stopped, not flushes, and on through flushes and crashes.
func TestWritesAreCounted(t *testing.T) {
	d := newDisk(t, 2)
	write(t, d, 0, filled(1))
	write(t, d, 0, filled(1))
	d.Write(2, filled(1))
	d.Write(0, nil)
	d.Fail(0)
	want(t, d.Write(0, filled(1)), api.ErrIO)
	wantWrites(t, d, 2)
	flush(t, d)
	wantWrites(t, d, 2)
	write(t, d, 1, filled(2))
	d.Arm(0)
	want(t, d.Write(0, filled(1)), api.ErrDown)
	want(t, d.Write(0, filled(1)), api.ErrDown)
	wantWrites(t, d, 3)
	d.Crash(nil, 0, 7)
	wantWrites(t, d, 3)
	write(t, d, 1, filled(2))
	wantWrites(t, d, 4)
	wantWrites(t, d.Copy(), 0)
}

// P4.1: a copy has the blocks, what is unflushed, what is armed and the power of the disk, its Writes 0.
func TestCopyIsTheSameDisk(t *testing.T) {
	d := loaded(t, mixed(9, 4))
	write(t, d, 3, mixed(1, 1))
	write(t, d, 0, mixed(2, 1))
	write(t, d, 3, mixed(3, 1))
	c := d.Copy()
	wantBlocks(t, c, d.Image())
	wantPending(t, c, 3, 0, 3)
	wantWrites(t, c, 0)
	wantWrites(t, d, 3)
	d.Crash([]bool{true}, -1, 0)
	c.Crash([]bool{true}, -1, 0)
	wantBlocks(t, c, d.Image(), "both crashed")

	d.Fail(1)
	d.Arm(3)
	c = d.Copy()
	for _, wanted := range []api.Errno{api.OK, api.ErrIO, api.OK, api.ErrDown, api.ErrDown} {
		want(t, c.Flush(), wanted, "copy")
		want(t, d.Flush(), wanted)
	}
	c = d.Copy()
	want(t, c.Flush(), api.ErrDown, "a copy without power")
	if _, e := c.Read(0); e != api.ErrDown {
		t.Error("a copy without power", int(e))
	}
}

// P4.1: what is done to a copy, or to what it is of, is not seen in the other one.
func TestCopyIsApart(t *testing.T) {
	for _, swap := range []bool{false, true} {
		d := loaded(t, mixed(9, 2))
		write(t, d, 0, mixed(1, 1))
		still, moved := d, d.Copy()
		if swap {
			still, moved = moved, still
		}
		was, writes := still.Image(), still.Writes()
		write(t, moved, 1, mixed(2, 1))
		flush(t, moved)
		write(t, moved, 0, mixed(3, 1))
		moved.Arm(0)
		moved.Fail(0)
		want(t, moved.Flush(), api.ErrDown)
		wantBlocks(t, still, was, swap)
		wantPending(t, still, 0)
		wantWrites(t, still, writes)
		flush(t, still)
		want(t, moved.Crash(nil, 0, 0xff), api.OK)
		wantBlocks(t, still, was, swap)
	}
}

// P4.1: without power the blocks are not read, all else is told.
func TestWhatIsToldWithoutPower(t *testing.T) {
	d := loaded(t, mixed(9, 2))
	write(t, d, 1, mixed(1, 1))
	image := append(mixed(9, 2)[:4096], mixed(1, 1)...)
	d.Arm(0)
	want(t, d.Flush(), api.ErrDown)
	for n := range 2 {
		if b, e := d.Read(n); e != api.ErrDown || b != nil {
			t.Error(len(b), int(e))
		}
	}
	if d.Size() != 2 || !bytes.Equal(d.Image(), image) {
		t.Error(d.Size())
	}
	wantPending(t, d, 1)
	wantWrites(t, d, 1)
	wantPending(t, d.Copy(), 1)
}

// R5: a disk that is nil, that no call made, or that is one by value.
func TestNoDisk(t *testing.T) {
	made := newDisk(t, 2)
	write(t, made, 0, filled(1))
	byValue := *made
	for name, d := range map[string]*disk.Disk{"nil": nil, "zero": {}, "new": new(disk.Disk), "by value": &byValue} {
		if d.Size() != 0 || d.Pending() != nil || d.Writes() != 0 || d.Image() != nil || d.Copy() != nil {
			t.Error(name, "answers")
		}
		for _, n := range []int{-1, 0, math.MaxInt, math.MinInt} {
			if b, e := d.Read(n); e != api.ErrNil || b != nil {
				t.Error(name, n, int(e))
			}
			want(t, d.Write(n, filled(1)), api.ErrNil, name, "Write", n)
			want(t, d.Write(n, nil), api.ErrNil, name, "Write", n)
			want(t, d.Arm(n), api.ErrNil, name, "Arm", n)
			want(t, d.Fail(n), api.ErrNil, name, "Fail", n)
			want(t, d.Crash(nil, n, 0xff), api.ErrNil, name, "Crash", n)
		}
		want(t, d.Flush(), api.ErrNil, name, "Flush")
		want(t, d.Crash([]bool{true}, 0, 1), api.ErrNil, name, "Crash")
	}
	wantPending(t, made, 0)
	wantWrites(t, made, 1)
	flush(t, made)
}

// withSpare is a copy of l with room behind it that is filled with fill.
func withSpare[T any](l []T, fill T) []T {
	room := slices.Concat(l, slices.Repeat([]T{fill}, 700))
	return room[:len(l)]
}

func wholeRoom[T any](l []T) []T {
	return l[:cap(l)]
}

func spoil(b []byte) {
	b = wholeRoom(b)
	for i := range b {
		b[i] ^= 0xa5
	}
}

// R3: what is handed in is not kept, nor changed, its spare room neither.
func TestWhatIsHandedInStays(t *testing.T) {
	image := withSpare(mixed(1, 2), 0xee)
	block := withSpare(mixed(2, 1), 0xee)
	keep := withSpare([]bool{false, true}, true)
	kept := [][]byte{bytes.Clone(wholeRoom(image)), bytes.Clone(wholeRoom(block))}
	keptKeep := slices.Clone(wholeRoom(keep))

	d := loaded(t, image)
	for range 4 {
		write(t, d, 0, block)
	}
	d.Copy().Crash(keep, 0, 0x5a)
	flush(t, d)
	write(t, d, 1, block)
	d.Crash(keep, 0, 0x5a)
	write(t, d, 1, filled(7))
	flush(t, d)
	if !bytes.Equal(wholeRoom(image), kept[0]) || !bytes.Equal(wholeRoom(block), kept[1]) || !slices.Equal(wholeRoom(keep), keptKeep) {
		t.Error("handed in, and changed")
	}

	d = loaded(t, image)
	write(t, d, 0, block)
	was := d.Image()
	spoil(image)
	spoil(block)
	wantBlocks(t, d, was, "unflushed")
	flush(t, d)
	spoil(image)
	spoil(block)
	wantBlocks(t, d, was, "flushed")
}

// P4.4, R3: what lies behind keep, in its spare room, says nothing.
func TestSpareRoomOfKeepSaysNothing(t *testing.T) {
	d := newDisk(t, 2)
	write(t, d, 0, filled(1))
	write(t, d, 1, filled(2))
	want(t, d.Crash(withSpare([]bool{true}, true), -1, 0), api.OK)
	wantBlocks(t, d, append(filled(1), filled(0)...))
}

// R3: what is handed out is new each time, its spare room too.
func TestWhatIsHandedOutIsNew(t *testing.T) {
	d := loaded(t, mixed(1, 3))
	write(t, d, 1, mixed(2, 1))
	write(t, d, 1, mixed(3, 1))
	for range 2 {
		was, pending := d.Image(), slices.Clone(d.Pending())
		image := d.Image()
		spoil(d.Image())
		other := d.Copy()
		var blocks [][]byte
		for n := range 3 {
			b, _ := d.Read(n)
			blocks = append(blocks, b)
			again, _ := d.Read(n)
			spoil(again)
		}
		clear(wholeRoom(d.Pending()))
		wantBlocks(t, d, was)
		wantBlocks(t, other, was)
		wantPending(t, d, pending...)
		wantPending(t, other, pending...)
		if !bytes.Equal(image, was) || !bytes.Equal(slices.Concat(blocks...), was) {
			t.Error("one answer is changed by another")
		}
		flush(t, d)
	}
}

// R3: an answer stays as it is, whatever is done to the disk behind it.
func TestAnswersStay(t *testing.T) {
	d := loaded(t, mixed(1, 2))
	write(t, d, 0, mixed(2, 1))
	wantImage := append(mixed(2, 1), mixed(1, 2)[4096:]...)
	image, pending := d.Image(), d.Pending()
	zero, _ := d.Read(0)
	one, _ := d.Read(1)
	write(t, d, 0, filled(1))
	write(t, d, 1, filled(1))
	flush(t, d)
	write(t, d, 1, filled(2))
	d.Crash(nil, 0, 0x0f)
	if !bytes.Equal(image, wantImage) || !bytes.Equal(slices.Concat(zero, one), wantImage) || !slices.Equal(pending, []int{0}) {
		t.Error("an answer was changed")
	}
}

// R3, R4: disks are apart from each other.
func TestDisksAreApart(t *testing.T) {
	image := mixed(1, 2)
	a, b := loaded(t, image), loaded(t, image)
	c, e := newDisk(t, 2), newDisk(t, 2)
	for _, d := range []*disk.Disk{a, c} {
		write(t, d, 0, filled(1))
		flush(t, d)
		d.Arm(0)
		d.Flush()
	}
	wantBlocks(t, b, image)
	wantBlocks(t, e, make([]byte, 2*4096))
	flush(t, b)
	flush(t, e)
}
