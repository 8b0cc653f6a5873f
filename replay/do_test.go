package replay_test

import (
	"bytes"
	"math"
	"slices"
	"testing"

	"ledgerstone/api"
	"ledgerstone/disk"
	"ledgerstone/replay"
)

// does is that Do of these arguments is done wholly, on a copy of d, operation by operation as the chapter says.
func does(t *testing.T, d *disk.Disk, images []api.Image, s api.Super, slot int) {
	t.Helper()
	c := d.Copy()
	if err := replay.Do(c, images, s, slot); err != api.OK {
		t.Fatal(blocksOf(images), s, slot, err)
	}
	done(d.Image(), operations(images, s, slot)).isOn(t, c, blocksOf(images), s, slot)
	if c.Writes() != len(images)+1 {
		t.Fatal("writes", c.Writes(), "of images", len(images))
	}
}

// refusesDo is that Do answers that error, and leaves d as it was: its unflushed writes, what is armed and the power, too.
func refusesDo(t *testing.T, d *disk.Disk, images []api.Image, s api.Super, slot int, want api.Errno) {
	t.Helper()
	twin, writes := d.Copy(), d.Writes()
	if err := replay.Do(d, images, s, slot); err != want {
		t.Fatal(blocksOf(images), s, slot, "answered", err, "wanted", want)
	}
	if d.Writes() != writes || !slices.Equal(d.Pending(), twin.Pending()) || !bytes.Equal(d.Image(), twin.Image()) || !bytes.Equal(lasts(d), lasts(twin)) {
		t.Fatal(blocksOf(images), s, slot, "something was done")
	}
	c := d.Copy()
	for range 3 {
		if got, want := c.Flush(), twin.Flush(); got != want {
			t.Fatal(blocksOf(images), s, slot, "another operation was let through", got, want)
		}
	}
}

// The chapter's example.
func TestDoExample(t *testing.T) {
	d := newDisk(t, 64)
	b := filled('B')
	if err := replay.Do(d, []api.Image{image(30, b)}, S(1, 2), 1); err != api.OK || d.Writes() != 2 {
		t.Fatal(err, d.Writes())
	}
	if !bytes.Equal(read(t, d, 30), b) || !bytes.Equal(read(t, d, 1), superBytes(S(1, 2))) {
		t.Fatal("other blocks")
	}
	want := make([]byte, 64*4096)
	copy(want[30*4096:], b)
	copy(want[4096:], superBytes(S(1, 2)))
	if !bytes.Equal(lasts(d), want) {
		t.Fatal("other blocks last")
	}
}

// P10.3, R5: no disk, and disks that no call made, whatever stands beside them: ErrNil comes first.
func TestDoOfNoDisk(t *testing.T) {
	made := newDisk(t, 64)
	down := newDisk(t, 64)
	down.Arm(0)
	down.Flush()
	copied, copiedDown := *made, *down
	for _, d := range []*disk.Disk{nil, {}, new(disk.Disk), &copied, &copiedDown} {
		for _, images := range [][]api.Image{nil, {image(30, filled(1))}, {image(0, filled(1))}, {image(30, nil)}} {
			for _, s := range []api.Super{S(1, 2), {}} {
				for _, slot := range []int{-1, 0, 1, 2} {
					if err := replay.Do(d, images, s, slot); err != api.ErrNil {
						t.Fatal(blocksOf(images), s, slot, err)
					}
				}
			}
		}
	}
	if made.Writes() != 0 || len(made.Pending()) != 0 || !bytes.Equal(made.Image(), make([]byte, 64*4096)) {
		t.Fatal("the disk that one was copied of was written")
	}
}

// dirty is a disk with blocks that last, and some writes that do not yet.
func dirty(t *testing.T, blocks int) *disk.Disk {
	t.Helper()
	d := load(t, mixed(blocks, blocks))
	d.Write(blocks-1, filled(0xd1))
	d.Write(0, filled(0xd2))
	return d
}

// P10.3: each number of s out of its bounds, alone.
func TestDoOfWrongSupers(t *testing.T) {
	d := dirty(t, 64)
	images := []api.Image{image(30, filled(1))}
	wrong := []api.Super{{}, {Blocks: 64}, {Epoch: 1, Seq: 1}}
	for _, n := range []int{math.MinInt, -64, -1, 0, 1, 63, 513, 1024, 1<<32 + 64, math.MaxInt} {
		wrong = append(wrong, api.Super{Blocks: n, Epoch: 1, Seq: 2})
	}
	for _, n := range []int{math.MinInt, -1, 0, 1<<23 + 1, 1 << 24, 1<<32 + 1, math.MaxInt} {
		wrong = append(wrong, api.Super{Blocks: 64, Epoch: n, Seq: 2})
	}
	for _, n := range []int{math.MinInt, -1, 0, 1<<39 + 1, 1 << 40, 1<<62 + 1, math.MaxInt} {
		wrong = append(wrong, api.Super{Blocks: 64, Epoch: 1, Seq: n})
	}
	for _, n := range []int{math.MinInt, -1, 512, 513, 1 << 32, math.MaxInt} {
		wrong = append(wrong, api.Super{Blocks: 64, Epoch: 1, Seq: 2, Tail: n})
	}
	for _, s := range wrong {
		for slot := range 2 {
			refusesDo(t, d, images, s, slot, api.ErrArg)
			refusesDo(t, d, nil, s, slot, api.ErrArg)
		}
	}
}

// P10.3: the least and the greatest of each number of s; its Blocks need not be the disk's Size, nor its Tail a place of the ring.
func TestDoOfEdgeSupers(t *testing.T) {
	d := dirty(t, 64)
	for _, blocks := range []int{64, 65, 512} {
		for _, epoch := range []int{1, 1 << 23} {
			for _, seq := range []int{1, 1 << 39} {
				for _, tail := range []int{0, 15, 16, 511} {
					s := api.Super{Blocks: blocks, Epoch: epoch, Seq: seq, Tail: tail}
					does(t, d, []api.Image{image(30, filled(1))}, s, 1)
				}
			}
		}
	}
}

// P10.3: slots that may be and that may not.
func TestDoOfSlots(t *testing.T) {
	d := dirty(t, 64)
	for _, images := range [][]api.Image{nil, {image(30, filled(1))}} {
		for _, slot := range []int{math.MinInt, -1 << 32, -2, -1, 2, 3, 30, 63, 64, 1 << 32, 1<<32 + 1, math.MaxInt} {
			refusesDo(t, d, images, S(1, 2), slot, api.ErrArg)
		}
		does(t, d, images, S(1, 2), 0)
		does(t, d, images, S(1, 2), 1)
	}
}

// P10.3: on disks of several sizes, blocks that images may be of, and those that they may not, anywhere among those that may.
func TestDoOfBlocks(t *testing.T) {
	for _, size := range []int{3, 4, 63, 64, 65, 512} {
		d := dirty(t, size)
		for _, n := range []int{2, (size + 1) / 2, size - 1} {
			does(t, d, []api.Image{image(n, filled(1))}, S(1, 2), 0)
			does(t, d, []api.Image{image(n, filled(1)), image(2, filled(2)), image(size-1, filled(3))}, S(1, 2), 1)
		}
		for _, n := range []int{math.MinInt, -1 << 32, -size, -2, -1, 0, 1, size, size + 1, 512, 1<<32 + 2, math.MaxInt} {
			for at := range 4 {
				images := []api.Image{image(2, filled(1)), image(size-1, filled(2)), image(2, filled(3))}
				refusesDo(t, d, slices.Insert(images, at, image(n, filled(4))), S(1, 2), 1, api.ErrArg)
			}
			refusesDo(t, d, []api.Image{image(n, filled(4))}, S(1, 2), 0, api.ErrArg)
		}
	}
}

// P10.3: Data of other lengths than a block's, anywhere among images that may be.
func TestDoOfLengths(t *testing.T) {
	d := dirty(t, 64)
	for _, length := range []int{0, 1, 512, 4095, 4097, 8192, 4096 * 64} {
		data := mixed(length, 64)[:length]
		for at := range 4 {
			images := []api.Image{image(30, filled(1)), image(31, filled(2)), image(30, filled(3))}
			refusesDo(t, d, slices.Insert(images, at, image(32, data)), S(1, 2), 1, api.ErrArg)
		}
	}
	refusesDo(t, d, []api.Image{image(32, nil)}, S(1, 2), 1, api.ErrArg)
	refusesDo(t, d, []api.Image{image(32, make([]byte, 4095, 4096))}, S(1, 2), 1, api.ErrArg)
	does(t, d, []api.Image{image(32, mixed(1, 2)[:4096])}, S(1, 2), 1)
}

// P10.3: no images, many, the same block twice, in any order: they are written as they stand.
func TestDoOfManyImages(t *testing.T) {
	d := dirty(t, 64)
	does(t, d, nil, S(1, 2), 0)
	does(t, d, []api.Image{}, S(1, 2), 1)
	for _, blocks := range [][]int{{30, 30}, {30, 31, 30}, {63, 2, 40}, {2, 3, 63}, {40, 40, 40, 2, 40}, slices.Repeat([]int{9, 2, 63, 30}, 50)} {
		var images []api.Image
		for i, n := range blocks {
			images = append(images, image(n, mixed(i, 1)))
		}
		for slot := range 2 {
			does(t, d, images, S(1, 2), slot)
		}
	}
}

// P10.3: disks that have no room for images; one that has not even block 1 errs by the disk's own word, behind the flush.
func TestDoOnTheLeastDisks(t *testing.T) {
	for size := 1; size <= 3; size++ {
		d := load(t, mixed(size, size))
		for slot := range min(size, 2) {
			does(t, d, nil, S(1, 2), slot)
		}
		for n := -1; n <= 3; n++ {
			if n != 2 || size < 3 {
				refusesDo(t, d, []api.Image{image(n, filled(1))}, S(1, 2), 0, api.ErrArg)
			}
		}
	}
	d := load(t, mixed(1, 1))
	d.Write(0, filled(7))
	if err := replay.Do(d, nil, S(1, 2), 1); err != api.ErrBlock || d.Writes() != 1 || len(d.Pending()) != 0 || !bytes.Equal(lasts(d), filled(7)) {
		t.Fatal(err, d.Writes(), d.Pending())
	}
}

// P10.3: what was unflushed ahead of Do lasts with its images.
func TestDoFlushesAllThatIsUnflushed(t *testing.T) {
	d := load(t, mixed(5, 64))
	d.Write(50, filled(1))
	d.Write(30, filled(2))
	d.Write(1, filled(3))
	does(t, d, []api.Image{image(30, filled(4))}, S(1, 2), 0)
}

// stops are the two ways in which a disk stops an operation.
func stops() []struct {
	arm  func(d *disk.Disk, ops int) api.Errno
	want api.Errno
} {
	return []struct {
		arm  func(d *disk.Disk, ops int) api.Errno
		want api.Errno
	}{{(*disk.Disk).Arm, api.ErrDown}, {(*disk.Disk).Fail, api.ErrIO}}
}

// P10.3: the power fails, or an operation does, at each operation, one at a time: that is the error, and nothing is done behind it.
func TestDoStopsAtEachOperation(t *testing.T) {
	rows := [][]api.Image{nil, {image(30, filled(1))}, {image(40, filled(1)), image(30, filled(2)), image(40, filled(3)), image(2, filled(4)), image(63, filled(5))}}
	for _, images := range rows {
		for slot := range 2 {
			for _, stop := range stops() {
				ops := operations(images, S(2, 7), slot)
				for k := range len(ops) + 2 {
					d := load(t, mixed(k, 64))
					was := d.Image()
					stop.arm(d, k)
					want := api.OK
					if k < len(ops) {
						want = stop.want
					}
					if err := replay.Do(d, images, S(2, 7), slot); err != want {
						t.Fatal(blocksOf(images), slot, k, "answered", err, "wanted", want)
					}
					reached := done(was, ops[:min(k, len(ops))])
					reached.isOn(t, d, blocksOf(images), slot, k)
					writes := 0
					for _, op := range ops[:min(k, len(ops))] {
						if op.data != nil {
							writes++
						}
					}
					if d.Writes() != writes {
						t.Fatal("writes", d.Writes(), "wanted", writes)
					}
				}
			}
		}
	}
}

// P10.3: an operation that fails is not tried again, and behind it the same arguments are done wholly.
func TestDoBehindAFailure(t *testing.T) {
	images := []api.Image{image(30, filled(1)), image(31, filled(2))}
	ops := operations(images, S(2, 7), 1)
	whole := done(mixed(1, 64), ops)
	for k := range ops {
		d := load(t, mixed(1, 64))
		d.Fail(k)
		if err := replay.Do(d, images, S(2, 7), 1); err != api.ErrIO {
			t.Fatal(k, err)
		}
		if err := replay.Do(d, images, S(2, 7), 1); err != api.OK {
			t.Fatal(k, err)
		}
		whole.isOn(t, d, k)
	}
}

// Errors: ErrArg comes ahead of the disk's errors, which are the same whatever images there are.
func TestDoOrderOfErrors(t *testing.T) {
	good := []api.Image{image(30, filled(1))}
	bad := []api.Image{image(30, filled(1)), image(1, filled(1))}
	for _, stop := range stops() {
		d := dirty(t, 64)
		stop.arm(d, 0)
		refusesDo(t, d, good, api.Super{}, 0, api.ErrArg)
		refusesDo(t, d, good, S(1, 2), 2, api.ErrArg)
		refusesDo(t, d, bad, S(1, 2), 0, api.ErrArg)
		refusesDo(t, d, []api.Image{image(30, nil)}, S(1, 2), 0, api.ErrArg)
	}
	d := dirty(t, 64)
	d.Arm(0)
	d.Flush()
	for _, images := range [][]api.Image{nil, good} {
		refusesDo(t, d, images, S(1, 2), 0, api.ErrDown)
		refusesDo(t, d, images, S(1, 2), 1, api.ErrDown)
	}
	refusesDo(t, d, bad, S(1, 2), 0, api.ErrArg)
	refusesDo(t, d, good, api.Super{}, 0, api.ErrArg)
	refusesDo(t, d, good, S(1, 2), -1, api.ErrArg)
	d = dirty(t, 64)
	d.Arm(0)
	d.Fail(0)
	refused := d.Copy()
	if err := replay.Do(refused, good, S(1, 2), 0); err != api.ErrDown {
		t.Fatal(err)
	}
}

// R3: what is handed in stays, its spare room too, and is not kept.
func TestDoLeavesItsArguments(t *testing.T) {
	room := mixed(3, 8)
	whole := []api.Image{image(30, room[:4096]), image(31, room[2*4096:3*4096]), image(30, room[:4096]), image(-1, room[7*4096:])}
	images := whole[:3]
	wasRoom, was := bytes.Clone(room), copyImages(whole)
	for k := range 7 {
		d := newDisk(t, 64)
		d.Arm(k)
		replay.Do(d, images, S(1, 2), 1)
		replay.Do(newDisk(t, 64), whole, S(1, 2), 1)
		if !bytes.Equal(room, wasRoom) || !sameImages(whole, was) {
			t.Fatal("changed", k)
		}
	}
	for k := 1; k < 7; k++ {
		d := newDisk(t, 64)
		d.Arm(k)
		replay.Do(d, images, S(1, 2), 1)
		stood := d.Image()
		for i := range room {
			room[i] ^= 0xff
		}
		if !bytes.Equal(d.Image(), stood) {
			t.Fatal("kept", k)
		}
		copy(room, wasRoom)
	}
}
