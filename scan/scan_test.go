package scan_test

import (
	"bytes"
	"math"
	"math/rand"
	"slices"
	"testing"

	"ledgerstone/api"
	"ledgerstone/disk"
	"ledgerstone/journal"
	"ledgerstone/layout"
	"ledgerstone/record"
	"ledgerstone/scan"
)

// Numbers out of bounds; some come into them where a number is cut or a sum wraps round.
var (
	wrongEpochs = []int{math.MinInt, math.MinInt + 1, -1 << 32, -1 << 23, -2, -1, 0, 1<<23 + 1, 1<<23 + 2, 1 << 24, 1<<32 + 1, math.MaxInt - 1, math.MaxInt}
	wrongSeqs   = []int{math.MinInt, math.MinInt + 1, -1 << 40, -1 << 39, -2, -1, 0, 1<<39 + 1, 1<<39 + 2, 1 << 40, 1<<40 + 1, 1<<62 + 1, math.MaxInt - 1, math.MaxInt}
)

// sizes of disks, and how many places their rings have.
var sizes = []struct{ blocks, places int }{{64, 16}, {65, 16}, {127, 16}, {128, 16}, {135, 16}, {136, 17}, {255, 31}, {256, 32}, {263, 32}, {264, 33}, {272, 34}, {511, 63}, {512, 64}}

// start is a superblock of epoch 1 and number 1.
func start(blocks, tail int) api.Super {
	return api.Super{Blocks: blocks, Epoch: 1, Seq: 1, Tail: tail}
}

// The chapter's examples.
func TestExamples(t *testing.T) {
	d, l := newDisk(t, 64)
	s := api.Super{Blocks: 64, Epoch: 1, Seq: 1, Tail: 14}
	tells(t, d, l, s, nil, 14)
	j, err := journal.Open(d, l, 1, 1, 14)
	if err != api.OK {
		t.Fatal(err)
	}
	groups := row(1, 1, 1, 2)
	for _, g := range groups {
		if n, err := j.Append(g.Images, false); n != g.Seq || err != api.OK {
			t.Fatal(n, err)
		}
	}
	tells(t, d, l, s, groups, 3)
	tells(t, d, l, api.Super{Blocks: 64, Epoch: 1, Seq: 2, Tail: 14}, nil, 14)
	tells(t, d, l, api.Super{Blocks: 64, Epoch: 1, Seq: 2, Tail: 0}, groups[1:], 3)
	b, err := d.Read(3)
	if err != api.OK {
		t.Fatal(err)
	}
	for sector := range 8 {
		for i := range 8 {
			turned := bytes.Clone(b)
			turned[sector*512+i] ^= 1
			if err := d.Write(3, turned); err != api.OK {
				t.Fatal(err)
			}
			tells(t, d, l, s, groups[:1], 0)
		}
	}
}

// P9.1, R5: no disk, and disks that no call made, whatever stands beside them: ErrNil comes first.
func TestNoDisk(t *testing.T) {
	made, l := newDisk(t, 64)
	layAll(t, made, l, 0, row(1, 1, 1))
	copied := *made
	down := made.Copy()
	down.Arm(0)
	down.Flush()
	copiedDown := *down
	for _, d := range []*disk.Disk{nil, {}, new(disk.Disk), &copied, &copiedDown} {
		for _, l := range []api.Layout{{}, l, {Blocks: -1}} {
			for _, n := range []int{math.MinInt, -1, 0, 1, 64, math.MaxInt} {
				refuses(t, d, l, api.Super{Blocks: n, Epoch: n, Seq: n, Tail: n}, api.ErrNil)
				refuses(t, d, l, start(64, 0), api.ErrNil)
			}
		}
	}
	tells(t, made, l, start(64, 0), row(1, 1, 1), 2)
}

// P9.1: each number out of bounds, alone, though groups are there.
func TestWrongNumbers(t *testing.T) {
	for _, size := range sizes {
		d, l := newDisk(t, size.blocks)
		layAll(t, d, l, 0, row(1, 1, 1, 2))
		right := start(size.blocks, 0)
		wrong := func(turn func(s *api.Super)) {
			t.Helper()
			s := right
			turn(&s)
			refuses(t, d, l, s, api.ErrArg)
		}
		for _, n := range wrongEpochs {
			wrong(func(s *api.Super) { s.Epoch = n })
		}
		for _, n := range wrongSeqs {
			wrong(func(s *api.Super) { s.Seq = n })
		}
		for _, n := range []int{math.MinInt, -size.places, -2, -1, size.places, size.places + 1, 2 * size.places, size.blocks, 1 << 32, math.MaxInt} {
			wrong(func(s *api.Super) { s.Tail = n })
		}
		for _, n := range []int{math.MinInt, -size.blocks, -1, 0, 1, size.places, size.blocks - 1, size.blocks + 1, 2 * size.blocks, 1<<32 + size.blocks, math.MaxInt} {
			wrong(func(s *api.Super) { s.Blocks = n })
		}
		tells(t, d, l, right, row(1, 1, 1, 2), 5)
	}
}

// P9.1: a layout that is another size's, no size's, or has one number turned; disks that no layout is of.
func TestWrongLayouts(t *testing.T) {
	d, l := newDisk(t, 128)
	for blocks := 64; blocks <= 512; blocks++ {
		if other, _ := layout.Of(blocks); blocks != 128 {
			refuses(t, d, other, start(128, 0), api.ErrArg)
			refuses(t, d, other, start(blocks, 0), api.ErrArg)
		}
	}
	refuses(t, d, api.Layout{}, start(128, 0), api.ErrArg)
	for _, by := range []int{math.MinInt, -128, -16, -1, 1, 2, 16, 1 << 32, math.MaxInt} {
		for i := range 7 {
			turned := l
			*[]*int{&turned.Blocks, &turned.Log, &turned.LogBlocks, &turned.Bits, &turned.Inodes, &turned.InodeBlocks, &turned.Data}[i] += by
			refuses(t, d, turned, start(128, 0), api.ErrArg)
		}
	}
	for _, blocks := range []int{1, 2, 16, 62, 63} {
		small, err := disk.New(blocks)
		if err != api.OK {
			t.Fatal(err)
		}
		likely := api.Layout{Blocks: blocks, Log: 2, LogBlocks: 16, Bits: 18, Inodes: 19, InodeBlocks: blocks / 16, Data: 19 + blocks/16}
		for _, l := range []api.Layout{{}, l, likely} {
			refuses(t, small, l, start(blocks, 0), api.ErrArg)
			refuses(t, small, l, start(0, 0), api.ErrArg)
			refuses(t, small, l, api.Super{}, api.ErrArg)
		}
	}
}

// P9.1: the least and the greatest of each number are taken, on an empty ring and with a group there.
func TestEdgeNumbers(t *testing.T) {
	for _, size := range sizes {
		for _, epoch := range []int{1, 2, 1<<23 - 1, 1 << 23} {
			for _, seq := range []int{1, 2, 1<<39 - 1, 1 << 39} {
				for _, tail := range []int{0, 1, size.places - 2, size.places - 1} {
					d, l := newDisk(t, size.blocks)
					s := api.Super{Blocks: size.blocks, Epoch: epoch, Seq: seq, Tail: tail}
					tells(t, d, l, s, nil, tail)
					g := row(epoch, seq, 3)
					layAll(t, d, l, tail, g)
					tells(t, d, l, s, g, (tail+4)%size.places)
				}
			}
		}
	}
}

// P9.1: a disk whose power is gone errs in reading; what is wrong with the arguments comes ahead of it; with the power back, all is told.
func TestDown(t *testing.T) {
	for _, groups := range [][]api.Group{nil, row(1, 1, 2, 1)} {
		d, l := newDisk(t, 64)
		places := layAll(t, d, l, 15, groups)
		if err := d.Flush(); err != api.OK {
			t.Fatal(err)
		}
		d.Arm(0)
		if err := d.Flush(); err != api.ErrDown {
			t.Fatal(err)
		}
		right := start(64, 15)
		refuses(t, d, l, right, api.ErrDown)
		refuses(t, d, api.Layout{}, right, api.ErrArg)
		for _, s := range []api.Super{{}, {Blocks: 65, Epoch: 1, Seq: 1}, {Blocks: 64, Seq: 1}, {Blocks: 64, Epoch: 1}, start(64, 16), start(64, -1)} {
			refuses(t, d, l, s, api.ErrArg)
		}
		small, _ := disk.New(63)
		small.Arm(0)
		small.Flush()
		refuses(t, small, api.Layout{}, right, api.ErrArg)
		if err := d.Crash(nil, -1, 0); err != api.OK {
			t.Fatal(err)
		}
		tells(t, d, l, right, groups, places[len(groups)])
	}
}

// P9.1: reading is no operation: what is armed stays armed, and stops nothing here.
func TestArmed(t *testing.T) {
	for _, arm := range []func(d *disk.Disk) api.Errno{
		func(d *disk.Disk) api.Errno { return d.Arm(0) },
		func(d *disk.Disk) api.Errno { return d.Fail(0) },
	} {
		d, l := newDisk(t, 64)
		groups := row(1, 1, 2, 1)
		layAll(t, d, l, 3, groups)
		arm(d)
		tells(t, d, l, start(64, 3), groups, 8)
		tells(t, d, l, start(64, 3), groups, 8)
		if err := d.Flush(); err == api.OK {
			t.Fatal("what was armed is not any more")
		}
	}
}

// P9.1: a new disk of each size has no groups, at each place.
func TestNewDisks(t *testing.T) {
	for blocks := 64; blocks <= 512; blocks++ {
		d, l := newDisk(t, blocks)
		for tail := range l.LogBlocks {
			tells(t, d, l, start(blocks, tail), nil, tail)
		}
	}
}

// rows is how many images groups have, behind one another, some so that a ring of that many places is full.
func rows(places int) [][]int {
	most := min(places-1, 32)
	ones := slices.Repeat([]int{1}, places/2)
	ones[0] += places % 2
	return [][]int{{1}, {2}, {most}, {1, 2}, {2, 1, 3}, {7, 2}, {most, 1}, {1, most - 1}, {most, places - most - 2}, {1, 2, min(places-6, 32)}, ones}
}

// fits is the beginning of a row that a ring of that many places can take, and how many of them it takes.
func fits(images []int, places int) ([]int, int) {
	used := 0
	for i, n := range images {
		if n < 1 || n > 32 || used+n+1 > places {
			return images[:i], used
		}
		used += n + 1
	}
	return images, used
}

// P9.1, P9.2: groups that a journal appended, from each place on, round the ring's end and up to its last place, are all told; so are those from each of them on.
func TestAppended(t *testing.T) {
	full := 0
	for _, size := range []struct{ blocks, places int }{{64, 16}, {136, 17}, {264, 33}, {512, 64}} {
		for _, images := range rows(size.places) {
			images, used := fits(images, size.places)
			for tail := range size.places {
				d, l := newDisk(t, size.blocks)
				groups := row(4, 9, images...)
				j, err := journal.Open(d, l, 4, 9, tail)
				if err != api.OK {
					t.Fatal(err)
				}
				place := tail
				var places []int
				for _, g := range groups {
					places = append(places, place)
					place = (place + len(g.Images) + 1) % size.places
					if n, err := j.Append(g.Images, false); n != g.Seq || err != api.OK {
						t.Fatal(n, err)
					}
				}
				if used == size.places {
					full++
				}
				for i := range groups {
					if i > 2 && tail%16 != 15 { // each from each would take long
						break
					}
					s := api.Super{Blocks: size.blocks, Epoch: 4, Seq: 9 + i, Tail: places[i]}
					tells(t, d, l, s, groups[i:], place)
				}
				tells(t, d, l, api.Super{Blocks: size.blocks, Epoch: 4, Seq: 9 + len(groups), Tail: place}, nil, place)
			}
		}
	}
	if full == 0 {
		t.Fatal("no ring was full")
	}
}

// P9.1: the most images that a group may have, and that a ring can take, and one more.
func TestLongest(t *testing.T) {
	for _, size := range sizes {
		for n := 1; n <= 32; n++ {
			for _, tail := range []int{0, 1, size.places / 2, size.places - 1} {
				d, l := newDisk(t, size.blocks)
				g := group(1, 1, n)
				// Of one that is too long but the beginning is laid: read round, each block bears its stamp, and the head is there again.
				blocks := put(t, g)
				lay(t, d, l, tail, blocks[:min(len(blocks), size.places)])
				if n+1 > size.places {
					tells(t, d, l, start(size.blocks, tail), nil, tail)
				} else {
					tells(t, d, l, start(size.blocks, tail), []api.Group{g}, (tail+n+1)%size.places)
				}
			}
		}
	}
}

// P9.1: what is too long for the ring would be a group if its blocks were read round: the test above is not idle.
func TestLongestRound(t *testing.T) {
	blocks := put(t, group(1, 1, 16))
	blocks[16] = blocks[0]
	if _, err := record.Get(blocks); err != api.OK {
		t.Fatal(err)
	}
}

// P9.1: behind a first group, one that has more blocks than the ring has left, whole or not, from each place on.
func TestMoreThanIsLeft(t *testing.T) {
	for _, size := range []struct{ blocks, places int }{{64, 16}, {136, 17}, {264, 33}} {
		for _, first := range []int{1, 2, size.places/2 - 1, min(size.places-2, 32), min(size.places-3, 32)} {
			left := size.places - first - 1
			for n := 1; n <= 32; n++ {
				for _, tail := range []int{0, 5, size.places - first - 1, size.places - 1} {
					d, l := newDisk(t, size.blocks)
					groups := row(1, 1, first, n)
					blocks := put(t, groups[1])
					places := layAll(t, d, l, tail, groups[:1])
					behind := lay(t, d, l, places[1], blocks[:min(len(blocks), left)])
					if n+1 > left {
						tells(t, d, l, start(size.blocks, tail), groups[:1], places[1])
					} else {
						tells(t, d, l, start(size.blocks, tail), groups, behind)
					}
				}
			}
		}
	}
}

// P9.1: a second group that lies over the first one's blocks unmakes the first.
func TestOver(t *testing.T) {
	for over := 1; over <= 5; over++ {
		d, l := newDisk(t, 64)
		groups := row(1, 1, 4, 10+over)
		layAll(t, d, l, 6, groups)
		tells(t, d, l, start(64, 6), nil, 6)
		tells(t, d, l, api.Super{Blocks: 64, Epoch: 1, Seq: 2, Tail: 11}, groups[1:], (6+over)%16)
	}
}

// P9.1: it is the ring that goes round: blocks that lie on behind its end, or ahead of its beginning, are not its own.
func TestOnlyTheRing(t *testing.T) {
	for _, size := range sizes {
		d, l := newDisk(t, size.blocks)
		blocks := put(t, group(1, 1, 3))
		for i, b := range blocks {
			d.Write(l.Bits-2+i, b)
		}
		tells(t, d, l, start(size.blocks, size.places-2), nil, size.places-2)
		d, l = newDisk(t, size.blocks)
		for i, b := range put(t, group(1, 1, 1)) {
			d.Write(i, b)
		}
		for tail := range size.places {
			tells(t, d, l, start(size.blocks, tail), nil, tail)
		}
	}
}

// P9.1: a first group of another epoch or number than is asked for.
func TestOtherFirst(t *testing.T) {
	for _, epoch := range []int{1, 2, 5, 256, 1 << 16, 1 << 23} {
		for _, seq := range []int{1, 2, 5, 256, 1 << 32, 1 << 39} {
			d, l := newDisk(t, 64)
			g := row(epoch, seq, 2)
			layAll(t, d, l, 15, g)
			for _, e := range []int{1, 2, 4, 5, 6, 255, 256, 257, 1 << 16, 1<<16 + 1, 1<<23 - 1, 1 << 23} {
				for _, n := range []int{1, 2, 3, 4, 5, 6, 255, 256, 257, 1 << 32, 1<<32 + 1, 1<<39 - 1, 1 << 39} {
					s := api.Super{Blocks: 64, Epoch: e, Seq: n, Tail: 15}
					if e == epoch && n == seq {
						tells(t, d, l, s, g, 2)
					} else {
						tells(t, d, l, s, nil, 15)
					}
				}
			}
		}
	}
}

// P9.1: behind two groups one of another epoch, of a number too low or too high, or the one that follows; and behind that one that would follow it.
func TestOtherNext(t *testing.T) {
	for _, epoch := range []int{1, 6, 7, 8, 7 + 1<<8, 7 + 1<<16, 1 << 23} {
		for _, seq := range []int{1, 49, 50, 51, 52, 53, 54, 52 + 1<<8, 52 + 1<<16, 52 + 1<<32, 1 << 39} {
			d, l := newDisk(t, 64)
			groups := row(7, 50, 2, 1)
			places := layAll(t, d, l, 14, groups)
			more := []api.Group{group(epoch, seq, 1), group(7, 53, 1), group(7, 52, 2)}
			behind := layAll(t, d, l, places[2], more)
			s := api.Super{Blocks: 64, Epoch: 7, Seq: 50, Tail: 14}
			if epoch == 7 && seq == 52 {
				tells(t, d, l, s, append(groups, more[:2]...), behind[2])
			} else {
				tells(t, d, l, s, groups, places[2])
			}
		}
	}
}

// P9.1: groups are told behind one another only: one block of noughts, of other bytes, or of the group ahead between them ends it.
func TestGap(t *testing.T) {
	groups := row(1, 1, 2, 1)
	for _, gap := range [][]byte{make([]byte, 4096), bytes.Repeat([]byte{0xff}, 4096), put(t, groups[0])[0], put(t, groups[0])[2], put(t, groups[1])[1]} {
		d, l := newDisk(t, 64)
		place := lay(t, d, l, 14, put(t, groups[0]))
		lay(t, d, l, lay(t, d, l, place, [][]byte{gap}), put(t, groups[1]))
		tells(t, d, l, start(64, 14), groups[:1], place)
	}
}

// P9.1: behind new groups lie such as were there from the epoch ahead, of numbers that would follow; and such as the same epoch let go.
func TestOldBehind(t *testing.T) {
	for tail := range 16 {
		for k := 1; k <= 5; k++ {
			d, l := newDisk(t, 64)
			old := row(3, 20, 2, 2, 2, 2, 2)
			places := layAll(t, d, l, tail, old)
			tells(t, d, l, api.Super{Blocks: 64, Epoch: 3, Seq: 20, Tail: tail}, old, places[5])
			groups := row(4, 20, 2, 2, 2, 2, 2)
			layAll(t, d, l, tail, groups[:k])
			tells(t, d, l, api.Super{Blocks: 64, Epoch: 4, Seq: 20, Tail: tail}, groups[:k], places[k])
			if k < 5 {
				tells(t, d, l, api.Super{Blocks: 64, Epoch: 3, Seq: 20 + k, Tail: places[k]}, old[k:], places[5])
				tells(t, d, l, api.Super{Blocks: 64, Epoch: 4, Seq: 20 + k, Tail: places[k]}, nil, places[k])
			}
		}
	}
}

// P9.2: a journal that has gone round, over groups that it let go: told are those that it has, from its Tail on, and its next place.
func TestGoneRound(t *testing.T) {
	chance := rand.New(rand.NewSource(1))
	for _, blocks := range []int{64, 136, 264, 512} {
		d, l := newDisk(t, blocks)
		j, err := journal.Open(d, l, 2, 5, 11)
		if err != api.OK {
			t.Fatal(err)
		}
		appended := map[int]api.Group{}
		for range 400 {
			g := group(2, j.Next(), 1+chance.Intn(12))
			if _, err := j.Append(g.Images, false); err == api.OK {
				appended[g.Seq] = g
			} else if err != api.ErrFull {
				t.Fatal(err)
			}
			if have := j.Groups(); chance.Intn(3) == 0 && len(have) > 0 {
				j.Flush()
				j.Release(have[chance.Intn(len(have))])
			}
			var want []api.Group
			for _, seq := range j.Groups() {
				want = append(want, appended[seq])
			}
			place, seq := j.Tail()
			tells(t, d, l, api.Super{Blocks: blocks, Epoch: 2, Seq: seq, Tail: place}, want, (place+j.Ring().Used)%l.LogBlocks)
		}
		if len(appended) < 50 {
			t.Fatal("gone round too little")
		}
	}
}

// P9.2: each sector of each block of each group, one at a time, turned to noughts, to another group's, and to what was there ahead: told are the groups ahead of it.
func TestEachSector(t *testing.T) {
	for _, tail := range []int{0, 4, 9, 13, 15} {
		d, l := newDisk(t, 64)
		layAll(t, d, l, tail, row(8, 30, 1, 2, 1, 1, 2, 1, 1))
		ahead := d.Image()
		groups := row(9, 30, 2, 1, 3)
		places := layAll(t, d, l, tail, groups)
		whole := d.Image()
		s := api.Super{Blocks: 64, Epoch: 9, Seq: 30, Tail: tail}
		tells(t, d, l, s, groups, places[3])
		for k, g := range groups {
			other := put(t, groups[(k+1)%3])
			for i := range len(g.Images) + 1 {
				block := l.Log + (places[k]+i)%16
				for sector := range 8 {
					from := block*4096 + sector*512
					for _, now := range [][]byte{make([]byte, 512), other[0][sector*512:][:512], other[1][sector*512:][:512], ahead[from:][:512]} {
						image := bytes.Clone(whole)
						copy(image[from:], now)
						tells(t, load(t, image), l, s, groups[:k], places[k])
					}
				}
			}
		}
	}
}

// P9.2: each bit of each stamp, turned alone.
func TestEachStamp(t *testing.T) {
	d, l := newDisk(t, 64)
	groups := row(1, 1, 1, 2)
	places := layAll(t, d, l, 14, groups)
	image := d.Image()
	for k, g := range groups {
		for i := range len(g.Images) + 1 {
			for sector := range 8 {
				for bit := range 64 {
					at := (l.Log+(places[k]+i)%16)*4096 + sector*512 + bit/8
					image[at] ^= 1 << (bit % 8)
					tells(t, load(t, image), l, start(64, 14), groups[:k], places[k])
					image[at] ^= 1 << (bit % 8)
				}
			}
		}
	}
}

// P9.2: blocks of a group that are missing, each alone: what was there, or noughts, stands in their place.
func TestEachBlock(t *testing.T) {
	for _, tail := range []int{0, 10, 15} {
		groups := row(1, 1, 3, 2, 4)
		for k, g := range groups {
			for i := range len(g.Images) + 1 {
				d, l := newDisk(t, 64)
				places := layAll(t, d, l, tail, groups)
				d.Write(l.Log+(places[k]+i)%16, make([]byte, 4096))
				tells(t, d, l, start(64, tail), groups[:k], places[k])
			}
		}
	}
}

// stands is how many of the first groups have each block in the image as it was written.
func stands(t *testing.T, image []byte, l api.Layout, places []int, groups []api.Group) int {
	t.Helper()
	for k, g := range groups {
		for i, b := range put(t, g) {
			if !bytes.Equal(b, blockOf(image, l, (places[k]+i)%l.LogBlocks)) {
				return k
			}
		}
	}
	return len(groups)
}

// P9.2: a crash that keeps any of the unflushed writes, each of them torn by any one sector missing or kept, or by halves: told is the beginning that is whole.
func TestCrashes(t *testing.T) {
	d, l := newDisk(t, 64)
	layAll(t, d, l, 13, row(1, 40, 1, 2, 1, 1, 2))
	d.Flush()
	groups := row(2, 40, 1, 2, 1)
	places := layAll(t, d, l, 13, groups)
	writes := len(d.Pending())
	s := api.Super{Blocks: 64, Epoch: 2, Seq: 40, Tail: 13}
	told := make([]int, 4)
	for mask := range 1 << writes {
		keep := make([]bool, writes)
		for i := range keep {
			keep[i] = mask>>i&1 == 1
		}
		for torn := -1; torn < writes; torn++ {
			for _, sectors := range []uint8{0, 0x7f, 0xfe, 0xff} {
				c := d.Copy()
				if err := c.Crash(keep, torn, sectors); err != api.OK {
					t.Fatal(err)
				}
				k := stands(t, c.Image(), l, places, groups)
				tells(t, c, l, s, groups[:k], places[k])
				told[k]++
				if torn < 0 {
					break
				}
			}
		}
	}
	if slices.Contains(told, 0) {
		t.Fatal("some beginning was never left", told)
	}
}

// P9.2: long runs of a journal with crashes at any place, on rings of all sizes, epoch behind epoch: told is the beginning that is whole, with all that was synced.
func TestCrashedJournals(t *testing.T) {
	chance := rand.New(rand.NewSource(2))
	cut := 0
	for range 300 {
		blocks := sizes[chance.Intn(len(sizes))].blocks
		d, l := newDisk(t, blocks)
		tail, seq := chance.Intn(l.LogBlocks), 1+chance.Intn(3)
		for epoch := 1; epoch <= 4; epoch++ {
			s := api.Super{Blocks: blocks, Epoch: epoch, Seq: seq, Tail: tail}
			j, err := journal.Open(d, l, epoch, seq, tail)
			if err != api.OK {
				t.Fatal(err)
			}
			if chance.Intn(3) == 0 {
				d.Arm(chance.Intn(20))
			}
			places := []int{tail}
			var groups []api.Group
			for range 1 + chance.Intn(8) {
				g := group(epoch, j.Next(), 1+chance.Intn(min(6, l.LogBlocks-1)))
				if _, err := j.Append(g.Images, false); err == api.OK {
					groups = append(groups, g)
					places = append(places, (places[len(places)-1]+len(g.Images)+1)%l.LogBlocks)
				}
				if chance.Intn(4) == 0 {
					j.Flush()
				}
			}
			synced := j.Synced()
			keep := make([]bool, len(d.Pending()))
			for i := range keep {
				keep[i] = chance.Intn(8) > 0
			}
			if err := d.Crash(keep, chance.Intn(len(keep)+2)-1, uint8(chance.Intn(256))); err != api.OK {
				t.Fatal(err)
			}
			k := stands(t, d.Image(), l, places, groups)
			if seq+k-1 < synced {
				t.Fatal("what was synced is lost", k, synced)
			}
			if k < len(groups) {
				cut++
			}
			tells(t, d, l, s, groups[:k], places[k])
			if chance.Intn(2) == 0 { // what is told is let go, and the next epoch goes on behind it
				tail, seq = places[k], seq+k
			}
		}
	}
	if cut < 100 {
		t.Fatal("too few crashes cut a row of groups", cut)
	}
}

// P9.1: the last number has none behind it: neither what would be of one more, nor what comes round to the first one.
func TestLastNumber(t *testing.T) {
	last := 1 << 39
	for _, epoch := range []int{1, 1 << 23} {
		for _, more := range []struct{ epoch, seq int }{{epoch, last + 1}, {epoch, last}, {epoch, last - 1}, {epoch, 0}, {epoch, 1}, {epoch, 1 << 40}, {epoch, 1<<40 + 1}, {epoch + 1, 0}, {epoch + 1, 1}, {epoch - 1, last}} {
			d, l := newDisk(t, 64)
			groups := row(epoch, last-1, 1, 2)
			place := layAll(t, d, l, 13, groups)[2]
			blocks := put(t, group(1, 1, 2))
			restamp(blocks, uint64(more.epoch), uint64(more.seq))
			lay(t, d, l, place, blocks)
			tells(t, d, l, api.Super{Blocks: 64, Epoch: epoch, Seq: last - 1, Tail: 13}, groups, place)
			tells(t, d, l, api.Super{Blocks: 64, Epoch: epoch, Seq: last, Tail: 15}, groups[1:], place)
		}
	}
}

// P9.2: any bytes in the ring, from any place: it ends, and tells what the model does.
func TestAnyBytes(t *testing.T) {
	chance := rand.New(rand.NewSource(3))
	for _, size := range sizes {
		for range 12 {
			image := make([]byte, size.blocks*4096)
			chance.Read(image)
			l, _ := layout.Of(size.blocks)
			s := start(size.blocks, chance.Intn(size.places))
			want, place := model(image, l, s)
			tells(t, load(t, image), l, s, want, place)
			same := bytes.Repeat([]byte{byte(chance.Intn(256))}, len(image))
			want, place = model(same, l, s)
			tells(t, load(t, same), l, s, want, place)
		}
	}
}

// P9.2: rings of blocks, sectors and bytes of groups of few epochs and numbers, put together by chance.
func TestMixedBytes(t *testing.T) {
	chance := rand.New(rand.NewSource(4))
	told := make([]int, 4)
	for range 200 {
		size := sizes[chance.Intn(len(sizes))]
		d, l := newDisk(t, size.blocks)
		var pool [][]byte
		for place, n := chance.Intn(size.places), 0; n < size.places; {
			blocks := put(t, group(1+chance.Intn(8)/7, 1+chance.Intn(3), 1+chance.Intn(4)))
			pool = append(pool, blocks...)
			place = lay(t, d, l, place, blocks)
			n += len(blocks)
		}
		image := d.Image()
		for range chance.Intn(3) {
			b := pool[chance.Intn(len(pool))]
			sector := chance.Intn(8) * 512
			to := blockOf(image, l, chance.Intn(size.places))
			switch chance.Intn(4) {
			case 0:
				copy(to, b)
			case 1:
				copy(to[sector:], b[sector:sector+512])
			case 2:
				clear(to[sector : sector+512])
			case 3:
				to[sector+chance.Intn(16)] ^= 1 << chance.Intn(8)
			}
		}
		d = load(t, image)
		for tail := range size.places {
			for seq := 1; seq <= 3; seq++ {
				s := api.Super{Blocks: size.blocks, Epoch: 1, Seq: seq, Tail: tail}
				want, place := model(image, l, s)
				tells(t, d, l, s, want, place)
				told[min(len(want), 3)]++
			}
		}
	}
	if slices.Contains(told, 0) {
		t.Fatal("some number of groups was never there", told)
	}
}

// P9.2: what is told was written so: put again, each group has the bytes that are in the ring.
func TestToldStands(t *testing.T) {
	chance := rand.New(rand.NewSource(5))
	for range 120 {
		size := sizes[chance.Intn(len(sizes))]
		d, l := newDisk(t, size.blocks)
		var images []int
		for range 12 {
			images = append(images, 1+chance.Intn(32))
		}
		images, _ = fits(images, size.places)
		tail := chance.Intn(size.places)
		layAll(t, d, l, tail, row(1, 1, images...))
		got, at, err := scan.Groups(d, l, start(size.blocks, tail))
		if err != api.OK || len(got) != len(images) {
			t.Fatal(len(got), err)
		}
		again, l := newDisk(t, size.blocks)
		if places := layAll(t, again, l, tail, got); places[len(got)] != at || !bytes.Equal(again.Image(), d.Image()) {
			t.Fatal(places, at)
		}
	}
}

// R3: the disk is as it was, its unflushed writes too.
func TestDiskStays(t *testing.T) {
	for _, flush := range []bool{false, true} {
		d, l := newDisk(t, 64)
		groups := row(1, 1, 2, 3)
		layAll(t, d, l, 12, groups)
		if flush {
			d.Flush()
		}
		image, pending, writes, twin := d.Image(), d.Pending(), d.Writes(), d.Copy()
		for _, s := range []api.Super{start(64, 12), start(64, 3), start(64, 99), {}} {
			got, _, _ := scan.Groups(d, l, s)
			for _, g := range got {
				for _, i := range g.Images {
					clear(i.Data)
				}
			}
			if !bytes.Equal(d.Image(), image) || !slices.Equal(d.Pending(), pending) || d.Writes() != writes {
				t.Fatal("the disk is another one", s)
			}
		}
		tells(t, d, l, start(64, 12), groups, 3)
		d.Crash(nil, -1, 0)
		twin.Crash(nil, -1, 0)
		if !bytes.Equal(d.Image(), twin.Image()) {
			t.Fatal("what lasts is another thing")
		}
	}
}

// R3: no two lists of answers share memory, spare room too: each is filled up to its room, and all others stay.
func TestApart(t *testing.T) {
	d, l := newDisk(t, 64)
	groups := row(1, 1, 1, 3, 2)
	layAll(t, d, l, 12, groups)
	first, _, _ := scan.Groups(d, l, start(64, 12))
	second, _, _ := scan.Groups(d, l, start(64, 12))
	for k := range first {
		for i := range first[k].Images {
			want := deepCopy(first)
			data := first[k].Images[i].Data
			data = data[:cap(data)]
			for n := range data {
				data[n] ^= 0xff
			}
			for n := range want[k].Images[i].Data {
				want[k].Images[i].Data[n] ^= 0xff
			}
			if !sameGroups(first, want) {
				t.Fatal("bytes are shared", k, i)
			}
		}
	}
	for k := range first {
		want := deepCopy(first)
		images := first[k].Images
		images = images[:cap(images)]
		clear(images)
		clear(want[k].Images)
		if !sameGroups(first, want) {
			t.Fatal("images are shared", k)
		}
	}
	clear(first[:cap(first)])
	if !sameGroups(second, groups) {
		t.Fatal("answers share memory")
	}
	tells(t, d, l, start(64, 12), groups, 5)
}
