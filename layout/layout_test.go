package layout_test

import (
	"math"
	"testing"

	"ledgerstone/api"
	"ledgerstone/layout"
)

// The parts of a disk, in the order in which they lie.
const (
	supers = iota
	log
	bits
	inodes
	data
	parts
)

// far are numbers out of all bounds, some of which come into them where a number is cut or wraps round.
var far = []int{math.MinInt, math.MinInt + 1, math.MinInt + 64, math.MinInt32, -1 << 16, -513, -512, -257, -256, -128, -65, -64, -63, -9, -8, -7, -2, -1,
	1 << 15, 1 << 16, 1<<16 + 64, 1<<31 + 64, 1 << 32, 1<<32 + 1, 1<<32 + 64, 1<<32 + 512, 1 << 58, 1<<58 + 1, 1 << 61, 1 << 62, math.MaxInt - 64, math.MaxInt - 1, math.MaxInt}

// partsOf is the part of each block by the chapter's words, shares told by counting.
func partsOf(n int) []int {
	eighth, sixteenth := 0, 0
	for left := n; left >= 8; left -= 8 {
		eighth++
	}
	for left := n; left >= 16; left -= 16 {
		sixteenth++
	}
	if eighth < 16 {
		eighth = 16
	}
	var out []int
	for part, count := range []int{supers: 2, log: eighth, bits: 1, inodes: sixteenth} {
		for range count {
			out = append(out, part)
		}
	}
	for len(out) < n {
		out = append(out, data)
	}
	return out
}

// model is the layout that these parts make.
func model(n int) api.Layout {
	var first, count [parts]int
	for block, part := range partsOf(n) {
		if count[part] == 0 {
			first[part] = block
		}
		count[part]++
	}
	return api.Layout{Blocks: n, Log: first[log], LogBlocks: count[log], Bits: first[bits], Inodes: first[inodes], InodeBlocks: count[inodes], Data: first[data]}
}

// numbers are the numbers of a layout, to be turned one by one.
func numbers(l *api.Layout) []*int {
	return []*int{&l.Blocks, &l.Log, &l.LogBlocks, &l.Bits, &l.Inodes, &l.InodeBlocks, &l.Data}
}

func made(t *testing.T, n int) api.Layout {
	t.Helper()
	l, e := layout.Of(n)
	if e != api.OK {
		t.Fatal(n, e)
	}
	return l
}

func refuseSize(t *testing.T, n int) {
	t.Helper()
	if l, e := layout.Of(n); e != api.ErrArg || l != (api.Layout{}) {
		t.Error(n, l, e)
	}
}

func refuseInode(t *testing.T, l api.Layout, n int) {
	t.Helper()
	if b, at, e := layout.Inode(l, n); e != api.ErrArg || b != 0 || at != 0 {
		t.Error(l, n, b, at, e)
	}
}

func refuseBit(t *testing.T, l api.Layout, block int, want api.Errno) {
	t.Helper()
	if at, bit, e := layout.Bit(l, block); e != want || at != 0 || bit != 0 {
		t.Error(l, block, at, bit, e)
	}
}

func checkInode(t *testing.T, l api.Layout, n, block, at int) {
	t.Helper()
	if b, a, e := layout.Inode(l, n); e != api.OK || b != block || a != at {
		t.Error(l, n, b, a, e)
	}
}

func checkBit(t *testing.T, l api.Layout, block, at int, bit uint8) {
	t.Helper()
	if a, b, e := layout.Bit(l, block); e != api.OK || a != at || b != bit {
		t.Error(l, block, a, b, e)
	}
}

// refuseLayout holds l to be no layout, whatever is asked of it.
func refuseLayout(t *testing.T, l api.Layout) {
	t.Helper()
	for _, n := range []int{math.MinInt, -1, 0, 1, 2, 64, 65, 256, 257, math.MaxInt} {
		refuseInode(t, l, n)
	}
	// P5.2's order of errors: a block that is none counts only where the layout is one.
	for _, block := range []int{math.MinInt, -1, 0, 1, 7, 8, 63, 64, l.Blocks - 1, l.Blocks, 512, math.MaxInt} {
		refuseBit(t, l, block, api.ErrArg)
	}
}

// checkTurned holds l to be a layout just if it is the one of its Blocks: sizes side by side may have like parts.
func checkTurned(t *testing.T, l api.Layout) {
	t.Helper()
	if l.Blocks < 64 || l.Blocks > 512 || l != model(l.Blocks) {
		refuseLayout(t, l)
		return
	}
	checkInode(t, l, 1, l.Inodes, 0)
	checkBit(t, l, l.Blocks-1, (l.Blocks-1)/8, 1<<((l.Blocks-1)%8))
	refuseBit(t, l, l.Blocks, api.ErrBlock)
}

// Chapter 5, examples.
func TestExamples(t *testing.T) {
	l := made(t, 64)
	if l != (api.Layout{Blocks: 64, Log: 2, LogBlocks: 16, Bits: 18, Inodes: 19, InodeBlocks: 4, Data: 23}) {
		t.Error(l)
	}
	if l := made(t, 512); l != (api.Layout{Blocks: 512, Log: 2, LogBlocks: 64, Bits: 66, Inodes: 67, InodeBlocks: 32, Data: 99}) {
		t.Error(l)
	}
	refuseSize(t, 63)
	refuseSize(t, 513)
	checkInode(t, l, 1, 19, 0)
	checkInode(t, l, 65, 20, 0)
	checkInode(t, l, 256, 22, 4032)
	refuseInode(t, l, 257)
	checkBit(t, l, 23, 2, 0x80)
	refuseBit(t, l, 64, api.ErrBlock)
}

// P5.1: sizes where a share begins to grow, and those ahead of and behind them, reckoned by hand.
func TestLayoutsAtEdges(t *testing.T) {
	for _, l := range []api.Layout{
		{Blocks: 64, Log: 2, LogBlocks: 16, Bits: 18, Inodes: 19, InodeBlocks: 4, Data: 23},
		{Blocks: 65, Log: 2, LogBlocks: 16, Bits: 18, Inodes: 19, InodeBlocks: 4, Data: 23},
		{Blocks: 79, Log: 2, LogBlocks: 16, Bits: 18, Inodes: 19, InodeBlocks: 4, Data: 23},
		{Blocks: 80, Log: 2, LogBlocks: 16, Bits: 18, Inodes: 19, InodeBlocks: 5, Data: 24},
		{Blocks: 127, Log: 2, LogBlocks: 16, Bits: 18, Inodes: 19, InodeBlocks: 7, Data: 26},
		{Blocks: 128, Log: 2, LogBlocks: 16, Bits: 18, Inodes: 19, InodeBlocks: 8, Data: 27},
		{Blocks: 129, Log: 2, LogBlocks: 16, Bits: 18, Inodes: 19, InodeBlocks: 8, Data: 27},
		{Blocks: 135, Log: 2, LogBlocks: 16, Bits: 18, Inodes: 19, InodeBlocks: 8, Data: 27},
		{Blocks: 136, Log: 2, LogBlocks: 17, Bits: 19, Inodes: 20, InodeBlocks: 8, Data: 28},
		{Blocks: 143, Log: 2, LogBlocks: 17, Bits: 19, Inodes: 20, InodeBlocks: 8, Data: 28},
		{Blocks: 144, Log: 2, LogBlocks: 18, Bits: 20, Inodes: 21, InodeBlocks: 9, Data: 30},
		{Blocks: 511, Log: 2, LogBlocks: 63, Bits: 65, Inodes: 66, InodeBlocks: 31, Data: 97},
		{Blocks: 512, Log: 2, LogBlocks: 64, Bits: 66, Inodes: 67, InodeBlocks: 32, Data: 99},
	} {
		if got := made(t, l.Blocks); got != l {
			t.Error(got, l)
		}
	}
}

// P5.1: every size that may be.
func TestLayoutsOfAllSizes(t *testing.T) {
	for n := 64; n <= 512; n++ {
		if l := made(t, n); l != model(n) {
			t.Error(l, model(n))
		}
	}
}

// P5.1: too few blocks, too many, none, fewer than none.
func TestOtherSizesAreRefused(t *testing.T) {
	for n := -600; n < 64; n++ {
		refuseSize(t, n)
	}
	for n := 513; n < 5000; n++ {
		refuseSize(t, n)
	}
	for _, n := range far {
		refuseSize(t, n)
	}
}

// P5.2: where inodes lie: the first, the last of a block and the first of the next, the last of all, reckoned by hand.
func TestInodesAtEdges(t *testing.T) {
	for _, v := range [][4]int{ // blocks, inode, its block, its first byte
		{64, 1, 19, 0}, {64, 2, 19, 64}, {64, 63, 19, 3968}, {64, 64, 19, 4032}, {64, 65, 20, 0}, {64, 66, 20, 64},
		{64, 128, 20, 4032}, {64, 129, 21, 0}, {64, 255, 22, 3968}, {64, 256, 22, 4032},
		{80, 257, 23, 0}, {80, 320, 23, 4032},
		{136, 1, 20, 0}, {136, 64, 20, 4032}, {136, 65, 21, 0}, {136, 512, 27, 4032},
		{511, 1, 66, 0}, {511, 1984, 96, 4032},
		{512, 1, 67, 0}, {512, 64, 67, 4032}, {512, 65, 68, 0}, {512, 1985, 98, 0}, {512, 2047, 98, 3968}, {512, 2048, 98, 4032},
	} {
		checkInode(t, made(t, v[0]), v[1], v[2], v[3])
	}
}

// P5.2, P5.3: all inodes of every size lie one behind the other, 64 bytes each, no two at a place, within the blocks of inodes.
func TestInodesOfAllSizes(t *testing.T) {
	for size := 64; size <= 512; size++ {
		l, part := made(t, size), partsOf(size)
		n := 0
		for block := range part {
			for at := 0; part[block] == inodes && at < 4096; at += 64 {
				n++
				checkInode(t, l, n, block, at)
			}
		}
		if n != 64*l.InodeBlocks {
			t.Error(size, n)
		}
		refuseInode(t, l, n+1)
	}
}

// P5.2: inodes that are none: nought, below it, beyond the last.
func TestOtherInodesAreRefused(t *testing.T) {
	for size := 64; size <= 512; size++ {
		l := made(t, size)
		last := 64 * (size / 16)
		for _, n := range []int{0, -1, -63, -64, last + 1, last + 2, last + 63, last + 64, last + 65, 2049, 4096} {
			refuseInode(t, l, n)
		}
		for _, n := range far {
			refuseInode(t, l, n)
		}
	}
}

// P5.2: bits of blocks: the least one first, reckoned by hand.
func TestBitsAtEdges(t *testing.T) {
	l := made(t, 64)
	for block, bit := range []uint8{1, 2, 4, 8, 16, 32, 64, 128} {
		checkBit(t, l, block, 0, bit)
		checkBit(t, l, 8+block, 1, bit)
		checkBit(t, l, 56+block, 7, bit)
	}
	checkBit(t, made(t, 65), 64, 8, 1)
	checkBit(t, made(t, 511), 510, 63, 64)
	checkBit(t, made(t, 512), 255, 31, 128)
	checkBit(t, made(t, 512), 256, 32, 1)
	checkBit(t, made(t, 512), 510, 63, 64)
	checkBit(t, made(t, 512), 511, 63, 128)
}

// P5.2, P5.3: all blocks of every size have their bits one behind the other, no two the same one, within a block.
func TestBitsOfAllSizes(t *testing.T) {
	for size := 64; size <= 512; size++ {
		l := made(t, size)
		at, bit := 0, 1
		for block := range size {
			checkBit(t, l, block, at, uint8(bit))
			bit *= 2
			if bit == 256 {
				at, bit = at+1, 1
			}
		}
		if at >= 4096 {
			t.Error(size, at)
		}
	}
}

// P5.2: blocks that are none: below nought, beyond the last.
func TestOtherBlocksHaveNoBit(t *testing.T) {
	for size := 64; size <= 512; size++ {
		l := made(t, size)
		for _, block := range []int{-1, -7, -8, -9, size, size + 1, size + 7, size + 8, 2 * size, 513, 1024, 4096, 32768} {
			refuseBit(t, l, block, api.ErrBlock)
		}
		for _, block := range far {
			refuseBit(t, l, block, api.ErrBlock)
		}
	}
}

// P5.3: a part ends where the next one begins, none is empty, the last block is data.
func TestPartsLieSideBySide(t *testing.T) {
	for size := 64; size <= 512; size++ {
		l := made(t, size)
		if l.Blocks != size || l.Log != 2 || l.Bits != l.Log+l.LogBlocks || l.Inodes != l.Bits+1 || l.Data != l.Inodes+l.InodeBlocks {
			t.Error("a gap, or one over another", l)
		}
		if l.LogBlocks < 16 || l.InodeBlocks < 1 || l.Data >= l.Blocks {
			t.Error("one is empty", l)
		}
	}
}

// P5.3: no place is two inodes', no bit two blocks'; none lies outside.
func TestUnlikeThingsHaveUnlikePlaces(t *testing.T) {
	for size := 64; size <= 512; size++ {
		l := made(t, size)
		places := map[[2]int]int{}
		for n := 1; n <= 64*l.InodeBlocks; n++ {
			block, at, e := layout.Inode(l, n)
			if e != api.OK || block < l.Inodes || block >= l.Data || at < 0 || at > 4096-64 || at%64 != 0 || places[[2]int{block, at}] != 0 {
				t.Error(l, n, block, at, e)
			}
			places[[2]int{block, at}] = n
		}
		owners := map[[2]int]int{}
		for block := range size {
			at, bit, e := layout.Bit(l, block)
			if e != api.OK || at < 0 || at >= 4096 || bit == 0 || bit&(bit-1) != 0 || owners[[2]int{at, int(bit)}] != 0 {
				t.Error(l, block, at, bit, e)
			}
			owners[[2]int{at, int(bit)}] = block + 1
		}
	}
}

// P5.2: a layout with a number turned is none, unless it is then another size's.
func TestLayoutsWithANumberTurnedAreRefused(t *testing.T) {
	for size := 64; size <= 512; size++ {
		l := made(t, size)
		for i := range numbers(&l) {
			for _, by := range []int{1, -1, 2, 8, 16, -16, 256, 1 << 16, 1 << 32, 1 << 62, math.MinInt} {
				turned := l
				*numbers(&turned)[i] += by
				checkTurned(t, turned)
			}
			for _, to := range []int{0, -1, math.MinInt, math.MaxInt} {
				turned := l
				*numbers(&turned)[i] = to
				refuseLayout(t, turned)
			}
		}
	}
}

// P5.2: Blocks turned by one, reckoned by hand: where a share grows, or at a bound, it is no layout any more; else it is the next size's.
func TestLayoutsWithBlocksTurned(t *testing.T) {
	turned := func(from, to int) api.Layout {
		l := made(t, from)
		l.Blocks = to
		return l
	}
	for _, v := range [][2]int{{64, 63}, {80, 79}, {79, 80}, {127, 128}, {128, 127}, {135, 136}, {136, 135}, {511, 512}, {512, 511}, {512, 513}} {
		refuseLayout(t, turned(v[0], v[1]))
	}
	checkBit(t, turned(64, 65), 64, 8, 1)
	refuseBit(t, turned(65, 64), 64, api.ErrBlock)
	checkInode(t, turned(129, 128), 512, 26, 4032)
	refuseInode(t, turned(129, 128), 513)
}

// P5.2: layouts whose parts lie side by side, yet are not as great as the chapter says, are none; nor do two wrongs make one.
func TestLayoutsWithOtherSharesAreRefused(t *testing.T) {
	for size := 64; size <= 512; size++ {
		for _, by := range []int{-1, 1} {
			l := made(t, size)
			l.LogBlocks, l.Bits, l.Inodes, l.Data = l.LogBlocks+by, l.Bits+by, l.Inodes+by, l.Data+by
			refuseLayout(t, l)
			l = made(t, size)
			l.InodeBlocks, l.Data = l.InodeBlocks+by, l.Data+by
			refuseLayout(t, l)
			l = made(t, size)
			l.Log, l.LogBlocks = l.Log+by, l.LogBlocks-by
			refuseLayout(t, l)
		}
		l := made(t, size)
		refuseLayout(t, api.Layout{Blocks: l.Log, Log: l.Blocks, LogBlocks: l.LogBlocks, Bits: l.Bits, Inodes: l.Inodes, InodeBlocks: l.InodeBlocks, Data: l.Data})
	}
}

// P5.2: the layout of another size is none, unless they differ in Blocks alone.
func TestLayoutsOfAnotherSizeAreRefused(t *testing.T) {
	for size := 64; size <= 512; size++ {
		for _, other := range []int{64, 79, 127, 128, 135, 136, 512} {
			l := made(t, other)
			l.Blocks = size
			checkTurned(t, l)
		}
	}
}

// P5.2: what the chapter's shares would give for a size that may not be is no layout; nor are all noughts.
func TestLayoutsOfNoSizeAreRefused(t *testing.T) {
	refuseLayout(t, api.Layout{})
	for _, n := range append([]int{-1, 0, 1, 2, 16, 32, 48, 62, 63, 513, 514, 520, 528, 576, 1024, 4096}, far...) {
		refuseLayout(t, api.Layout{Blocks: n})
		eighth := max(n/8, 16)
		inodes := 3 + eighth
		refuseLayout(t, api.Layout{Blocks: n, Log: 2, LogBlocks: eighth, Bits: inodes - 1, Inodes: inodes, InodeBlocks: n / 16, Data: inodes + n/16})
		for _, near := range []int{64, 512} {
			l := made(t, near)
			l.Blocks = n
			refuseLayout(t, l)
		}
	}
}

// R4: what is asked between changes no answer.
func TestAnswersHangOnArgumentsAlone(t *testing.T) {
	small, great := made(t, 64), made(t, 512)
	for range 2 {
		checkInode(t, great, 2048, 98, 4032)
		refuseInode(t, small, 2048)
		checkBit(t, great, 511, 63, 128)
		refuseBit(t, small, 511, api.ErrBlock)
		refuseSize(t, 0)
		if small != made(t, 64) || great != made(t, 512) {
			t.Error(small, great)
		}
	}
}
