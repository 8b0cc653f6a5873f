package disk_test

import (
	"bytes"
	"math"
	"slices"
	"testing"

	"ledgerstone/api"
	"ledgerstone/disk"
)

// crashed is a copy of d behind a crash.
func crashed(t *testing.T, d *disk.Disk, keep []bool, torn int, sectors uint8) *disk.Disk {
	t.Helper()
	c := d.Copy()
	want(t, c.Crash(keep, torn, sectors), api.OK, "Crash", keep, torn, sectors)
	wantPending(t, c)
	return c
}

// wanted is what a crash leaves by the chapter's words, byte by byte: the last write of the block of which this byte is carried out has it.
func wanted(durable []byte, blocks []int, data [][]byte, keep []bool, torn int, sectors uint8) []byte {
	out := bytes.Clone(durable)
	for at := range out {
		sector := at % 4096 / 512
		for i, n := range blocks {
			kept := i < len(keep) && keep[i]
			if i == torn {
				kept = slices.Contains(bitsOf(sectors), sector)
			}
			if n == at/4096 && kept {
				out[at] = data[i][at%4096]
			}
		}
	}
	return out
}

// bitsOf is the bits that are set, by division, so that it shares no way with the program.
func bitsOf(v uint8) []int {
	var out []int
	for bit := 0; v > 0; bit++ {
		if v%2 == 1 {
			out = append(out, bit)
		}
		v /= 2
	}
	return out
}

// keeps is the mix number mix of count bools.
func keeps(mix, count int) []bool {
	var out []bool
	for range count {
		out = append(out, mix%2 == 1)
		mix /= 2
	}
	return out
}

// unflushed is a disk with durable blocks, and writes of blocks with data that are not flushed.
func unflushed(t *testing.T, durable []byte, blocks []int, data [][]byte) *disk.Disk {
	t.Helper()
	d := loaded(t, durable)
	for i, n := range blocks {
		write(t, d, n, data[i])
	}
	return d
}

func datas(count int) [][]byte {
	var out [][]byte
	for i := range count {
		out = append(out, mixed(i, 1))
	}
	return out
}

// Chapter 4, example 1.
func TestExampleCrashes(t *testing.T) {
	a, b, noughts := filled(0x41), filled(0x42), filled(0)
	d := newDisk(t, 2)
	write(t, d, 0, a)
	write(t, d, 0, b)
	write(t, d, 1, a)
	wantPending(t, d, 0, 0, 1)
	wantBlocks(t, crashed(t, d, []bool{true}, -1, 0), slices.Concat(a, noughts))
	wantBlocks(t, crashed(t, d, []bool{false, true, true}, -1, 0), slices.Concat(b, a))
	wantBlocks(t, crashed(t, d, nil, 1, 0x03), slices.Concat(b[:1024], noughts[1024:], noughts))
}

// Chapter 4, example 2.
func TestExampleErrors(t *testing.T) {
	a, b := filled(0x41), filled(0x42)
	d := newDisk(t, 2)
	write(t, d, 0, a)
	flush(t, d)
	write(t, d, 0, b)
	wantBlocks(t, crashed(t, d, []bool{true}, 0, 0x80), slices.Concat(a[:3584], b[3584:], filled(0)))
	want(t, d.Write(2, a), api.ErrBlock)
	want(t, d.Write(0, nil), api.ErrArg)
	want(t, d.Arm(1), api.OK)
	want(t, d.Write(0, a), api.OK)
	want(t, d.Flush(), api.ErrDown)
}

// P4.4: several writes of one block and of others, each mix of them kept, each of them torn, or none.
func TestCrashKeepsAnyMix(t *testing.T) {
	durable, blocks, data := mixed(100, 2), []int{0, 1, 0, 0}, datas(4)
	d := unflushed(t, durable, blocks, data)
	for mix := range 1 << len(blocks) {
		keep := keeps(mix, len(blocks))
		for torn := -1; torn <= len(blocks); torn++ {
			for _, sectors := range []uint8{0, 0x01, 0x80, 0x5a, 0xfe, 0xff} {
				c := crashed(t, d, keep, torn, sectors)
				wantBlocks(t, c, wanted(durable, blocks, data, keep, torn, sectors), keep, torn, sectors)
			}
		}
	}
}

// P4.4: each set of sectors, whatever keep says of the torn one, none and all of them too.
func TestCrashTearsEachSetOfSectors(t *testing.T) {
	durable, blocks, data := mixed(100, 1), []int{0, 0}, datas(2)
	d := unflushed(t, durable, blocks, data)
	for sectors := range 256 {
		for torn := range 2 {
			for mix := range 4 {
				keep := keeps(mix, 2)
				c := crashed(t, d, keep, torn, uint8(sectors))
				wantBlocks(t, c, wanted(durable, blocks, data, keep, torn, uint8(sectors)), keep, torn, sectors)
			}
		}
	}
}

// P4.4: a number torn that no write has tears none.
func TestCrashTearsNoOther(t *testing.T) {
	durable, blocks, data := mixed(100, 2), []int{1, 0}, datas(2)
	d := unflushed(t, durable, blocks, data)
	for _, torn := range []int{math.MinInt, math.MinInt32, -513, -2, -1, 2, 3, 7, 256, 1 << 16, 1 << 32, 1<<32 + 1, 1 << 62, math.MaxInt} {
		for _, sectors := range []uint8{0, 3, 0xff} {
			wantBlocks(t, crashed(t, d, []bool{false, true}, torn, sectors), slices.Concat(data[1], durable[4096:]), torn, sectors)
			wantBlocks(t, crashed(t, d, nil, torn, sectors), durable, torn, sectors)
		}
	}
}

// P4.4: keep that is shorter than the unflushed writes, and longer.
func TestCrashWithAnyLengthOfKeep(t *testing.T) {
	durable, blocks, data := mixed(100, 3), []int{2, 0, 1, 2, 0}, datas(5)
	d := unflushed(t, durable, blocks, data)
	for length := range 12 {
		for torn := -1; torn < 7; torn++ {
			keep := slices.Repeat([]bool{true}, length)
			wantBlocks(t, crashed(t, d, keep, torn, 0x3c), wanted(durable, blocks, data, keep, torn, 0x3c), length, torn)
		}
	}
	wantBlocks(t, crashed(t, d, slices.Repeat([]bool{true}, 100000), -1, 0), d.Image())
	wantBlocks(t, crashed(t, newDisk(t, 1), []bool{true, true}, 0, 0xff), filled(0), "nothing unflushed")
}

// P4.4: behind a crash nothing is unflushed or armed, and the power is there; a second crash changes nothing.
func TestCrashResets(t *testing.T) {
	for _, gone := range []bool{false, true} {
		for keep := range 4 {
			d := newDisk(t, 2)
			write(t, d, 0, filled(1))
			write(t, d, 1, filled(2))
			d.Fail(1)
			d.Arm(0)
			if gone {
				want(t, d.Flush(), api.ErrDown)
			}
			want(t, d.Crash(keeps(keep, 2), -1, 0), api.OK)
			wantPending(t, d)
			image := d.Image()
			want(t, d.Crash([]bool{true, true}, 0, 0xff), api.OK)
			wantBlocks(t, d, image)
			for range 4 {
				write(t, d, 1, filled(3))
				flush(t, d)
			}
			wantBlocks(t, d, append(image[:4096], filled(3)...))
		}
	}
}

// P4.4: a disk goes on behind a crash, and crashes again: what the first one kept is durable.
func TestCrashedDiskGoesOn(t *testing.T) {
	d := newDisk(t, 3)
	write(t, d, 0, filled(1))
	write(t, d, 1, filled(1))
	want(t, d.Crash([]bool{true}, -1, 0), api.OK)
	write(t, d, 1, filled(2))
	write(t, d, 2, filled(2))
	wantPending(t, d, 1, 2)
	want(t, d.Crash([]bool{false}, 1, 0x0f), api.OK)
	wantBlocks(t, d, slices.Concat(filled(1), filled(0), filled(2)[:2048], filled(0)[2048:]))
}

// P4.5: what was flushed and not written since is there, each sector is durable's or one of its block's unflushed writes', and a crash that keeps all leaves the disk as it stood.
func TestWhatFollows(t *testing.T) {
	durable, blocks, data := mixed(100, 4), []int{1, 2, 1, 1, 2}, datas(5)
	d := newDisk(t, 4)
	for n := range 4 {
		write(t, d, n, filled(0xcc))
		write(t, d, n, durable[4096*n:4096*(n+1)])
	}
	flush(t, d)
	for i, n := range blocks {
		write(t, d, n, data[i])
	}
	for mix := range 1 << len(blocks) {
		for torn := -1; torn <= len(blocks); torn++ {
			image := crashed(t, d, keeps(mix, len(blocks)), torn, uint8(37*mix+torn)).Image()
			if !bytes.Equal(image[:4096], durable[:4096]) || !bytes.Equal(image[3*4096:], durable[3*4096:]) {
				t.Error("flushed and not there", mix, torn)
			}
			for at := 4096; at < 3*4096; at += 512 {
				checkSector(t, image, at, durable, blocks, data)
			}
		}
	}
	all := slices.Repeat([]bool{true}, len(blocks))
	wantBlocks(t, crashed(t, d, all, -1, 0), d.Image(), "all kept")
	for torn := range blocks {
		wantBlocks(t, crashed(t, d, all, torn, 0xff), d.Image(), "all kept, all sectors of one", torn)
	}
}

func checkSector(t *testing.T, image []byte, at int, durable []byte, blocks []int, data [][]byte) {
	t.Helper()
	sector := image[at : at+512]
	ok := bytes.Equal(sector, durable[at:at+512])
	for i, n := range blocks {
		from := at % 4096
		ok = ok || n == at/4096 && bytes.Equal(sector, data[i][from:from+512])
	}
	if !ok {
		t.Error("a sector of none", at)
	}
}
