package cache_test

import (
	"bytes"
	"math"
	"testing"

	"ledgerstone/api"
)

// notHeld are numbers of blocks that a cache of 64 blocks does not hold if it holds just 30 to 39.
func notHeld() []int {
	return []int{math.MinInt, -30, -1, 0, 1, 29, 40, 63, 64, 65, 1<<32 + 30, math.MaxInt}
}

// P12.3: each of the calls, of a block that is not held, be there empty slots or none: block 0 is not held, though slots may be empty.
func TestCallsOfABlockThatIsNotHeld(t *testing.T) {
	for _, room := range []int{2, 3, 64} {
		c, _, _ := fresh(t, 64, room)
		check := func(held, dirty, pinned []int) {
			t.Helper()
			for _, n := range notHeld() {
				is(t, c.Pin(n), api.ErrArg, n)
				is(t, c.Unpin(n), api.ErrArg, n)
				is(t, c.Put(n, filled(1)), api.ErrArg, n)
				is(t, c.Put(n, nil), api.ErrArg, n)
				is(t, c.Drop(n), api.ErrArg, n)
			}
			lists(t, c, held, dirty, pinned, room)
		}
		check(nil, nil, nil)
		loads(t, c, 30, 31)
		is(t, c.Pin(30), api.OK)
		is(t, c.Put(31, filled(1)), api.OK)
		check([]int{30, 31}, []int{31}, []int{30})
		is(t, c.Unpin(30), api.OK)
		is(t, c.Drop(30), api.OK)
		is(t, c.Pin(30), api.ErrArg) // it was held
		is(t, c.Unpin(30), api.ErrArg)
		is(t, c.Put(30, filled(1)), api.ErrArg)
		is(t, c.Drop(30), api.ErrArg)
		check([]int{31}, []int{31}, nil)
	}
}

// P12.3: a block that went to make room is not held.
func TestCallsOfABlockThatWent(t *testing.T) {
	c, _, _ := fresh(t, 64, 1)
	loads(t, c, 30, 31)
	is(t, c.Pin(30), api.ErrArg)
	is(t, c.Unpin(30), api.ErrArg)
	is(t, c.Put(30, filled(1)), api.ErrArg)
	is(t, c.Drop(30), api.ErrArg)
	lists(t, c, []int{31}, nil, nil)
}

// P12.3: block 0 is one like others, and is not taken for an empty slot.
func TestBlockNought(t *testing.T) {
	c, v, _ := fresh(t, 64, 2)
	want, _ := v.Read(0)
	tells(t, c, 0, want)
	lists(t, c, []int{0}, nil, nil)
	is(t, c.Pin(0), api.OK)
	is(t, c.Put(0, filled(1)), api.OK)
	lists(t, c, []int{0}, []int{0}, []int{0})
	tells(t, c, 0, filled(1))
	is(t, c.Unpin(0), api.OK)
	is(t, c.Drop(0), api.OK)
	lists(t, c, nil, nil, nil)
	tells(t, c, 0, want)
}

// P12.3: a block is pinned up to 1000 times; each Unpin takes one back, and one more is refused.
func TestPins(t *testing.T) {
	c, _, _ := fresh(t, 64, 2)
	loads(t, c, 30, 31)
	for round := range 2 {
		for i := range 1000 {
			is(t, c.Pin(30), api.OK, round, i)
		}
		for range 3 {
			is(t, c.Pin(30), api.ErrFull, round)
		}
		lists(t, c, []int{30, 31}, nil, []int{30})
		is(t, c.Pin(31), api.OK)
		is(t, c.Unpin(31), api.OK)
		is(t, c.Unpin(30), api.OK)
		is(t, c.Pin(30), api.OK)
		is(t, c.Pin(30), api.ErrFull)
		for i := range 1000 {
			lists(t, c, []int{30, 31}, nil, []int{30}, i)
			is(t, c.Unpin(30), api.OK, round, i)
		}
		for range 3 {
			is(t, c.Unpin(30), api.ErrArg, round)
		}
		lists(t, c, []int{30, 31}, nil, nil)
	}
	is(t, c.Pin(30), api.OK) // the refused ones count neither way
	lists(t, c, []int{30, 31}, nil, []int{30})
	is(t, c.Unpin(30), api.OK)
	is(t, c.Unpin(30), api.ErrArg)
}

// P12.3, P12.6: a block that is pinned twice and unpinned once stays.
func TestPinnedTwiceStays(t *testing.T) {
	c, _, _ := fresh(t, 64, 1)
	loads(t, c, 30)
	is(t, c.Pin(30), api.OK)
	is(t, c.Pin(30), api.OK)
	is(t, c.Unpin(30), api.OK)
	refused(t, c, 31, api.ErrBusy)
	is(t, c.Drop(30), api.ErrBusy)
	holds(t, c, 30)
	is(t, c.Unpin(30), api.OK)
	loads(t, c, 31)
	holds(t, c, 31)
}

// P12.3: Pin and Unpin leave the bytes, and whether it is dirty.
func TestPinLeavesTheRest(t *testing.T) {
	c, v, _ := fresh(t, 64, 2)
	was, _ := v.Read(30)
	loads(t, c, 30, 31)
	is(t, c.Put(31, filled(1)), api.OK)
	for _, n := range []int{30, 31} {
		is(t, c.Pin(n), api.OK)
	}
	tells(t, c, 30, was)
	tells(t, c, 31, filled(1))
	lists(t, c, []int{30, 31}, []int{31}, []int{30, 31})
	for _, n := range []int{30, 31} {
		is(t, c.Unpin(n), api.OK)
	}
	tells(t, c, 30, was)
	tells(t, c, 31, filled(1))
	lists(t, c, []int{30, 31}, []int{31}, nil)
}

// P12.3: Put of other lengths is refused and changes nothing; of 4096 bytes it is what Load tells.
func TestPut(t *testing.T) {
	c, v, d := fresh(t, 64, 2)
	was, _ := v.Read(30)
	loads(t, c, 30, 31)
	refuses := func(want []byte, dirty ...int) {
		t.Helper()
		is(t, c.Put(30, nil), api.ErrArg)
		for _, length := range []int{0, 1, 512, 4095, 4097, 8192} {
			is(t, c.Put(30, bytes.Repeat([]byte{9}, length)), api.ErrArg, length)
		}
		is(t, c.Put(30, make([]byte, 4095, 4096)), api.ErrArg)
		lists(t, c, []int{30, 31}, dirty, nil)
		tells(t, c, 30, want)
	}
	refuses(was)
	writes := d.Writes()
	is(t, c.Put(30, mixed(1, 1)), api.OK)
	refuses(mixed(1, 1), 30)
	is(t, c.Put(30, make([]byte, 4096, 5000)), api.OK)
	refuses(make([]byte, 4096), 30)
	is(t, c.Put(30, was), api.OK) // the same as the volume's, and dirty all the same
	refuses(was, 30)
	if d.Writes() != writes || v.Next() != 1 {
		t.Fatal("Put writes")
	}
	if b, _ := v.Read(30); !bytes.Equal(b, was) {
		t.Fatal("the volume was changed")
	}
	commits(t, c, 1, api.OK)
	is(t, c.Put(30, was), api.OK) // the same as is held
	refuses(was, 30)
	commits(t, c, 2, api.OK)
}

// P12.3: Put of a pinned block, which stays pinned.
func TestPutOfAPinnedBlock(t *testing.T) {
	c, _, _ := fresh(t, 64, 2)
	loads(t, c, 30)
	is(t, c.Pin(30), api.OK)
	is(t, c.Pin(30), api.OK)
	is(t, c.Put(30, filled(1)), api.OK)
	lists(t, c, []int{30}, []int{30}, []int{30})
	commits(t, c, 1, api.OK)
	lists(t, c, []int{30}, nil, []int{30})
	is(t, c.Unpin(30), api.OK)
	lists(t, c, []int{30}, nil, []int{30})
	is(t, c.Unpin(30), api.OK)
	lists(t, c, []int{30}, nil, nil)
}

// P12.3: Drop of a block that is pinned, dirty, both, neither, and behind it what the volume has.
func TestDrop(t *testing.T) {
	c, v, d := fresh(t, 64, 5)
	was, _ := v.Read(32)
	loads(t, c, 30, 31, 32, 33, 34)
	for _, n := range []int{31, 33} {
		is(t, c.Pin(n), api.OK)
	}
	for _, n := range []int{32, 33} {
		is(t, c.Put(n, filled(byte(n))), api.OK)
	}
	lists(t, c, span(30, 5), []int{32, 33}, []int{31, 33})
	for range 2 {
		is(t, c.Drop(31), api.ErrBusy)
		is(t, c.Drop(33), api.ErrBusy)
		lists(t, c, span(30, 5), []int{32, 33}, []int{31, 33})
		tells(t, c, 33, filled(33))
	}
	is(t, c.Drop(30), api.OK)
	lists(t, c, span(31, 4), []int{32, 33}, []int{31, 33})
	is(t, c.Drop(32), api.OK)
	lists(t, c, []int{31, 33, 34}, []int{33}, []int{31, 33})
	is(t, c.Drop(32), api.ErrArg)
	tells(t, c, 32, was)
	lists(t, c, span(31, 4), []int{33}, []int{31, 33})
	is(t, c.Unpin(33), api.OK)
	is(t, c.Drop(33), api.OK)
	lists(t, c, []int{31, 32, 34}, nil, []int{31})
	commits(t, c, 0, api.OK)
	if d.Writes() != 1 { // Mount's
		t.Fatal("what was dropped was written", d.Writes())
	}
}

// P12.3: Drop makes room where all stayed.
func TestDropMakesRoom(t *testing.T) {
	c, _, _ := fresh(t, 64, 2)
	loads(t, c, 30, 31)
	is(t, c.Put(30, filled(1)), api.OK)
	is(t, c.Pin(31), api.OK)
	refused(t, c, 32, api.ErrBusy)
	is(t, c.Drop(30), api.OK)
	loads(t, c, 32)
	holds(t, c, 31, 32)
}

// P12.3: the calls ask nothing of the volume: they go on when it is broken.
func TestCallsOfABrokenVolume(t *testing.T) {
	c, v, d := fresh(t, 64, 3)
	loads(t, c, 30, 31, 32)
	d.Arm(0)
	is(t, v.Sync(), api.ErrDown)
	is(t, c.Pin(30), api.OK)
	is(t, c.Put(31, filled(1)), api.OK)
	lists(t, c, span(30, 3), []int{31}, []int{30})
	is(t, c.Drop(30), api.ErrBusy)
	is(t, c.Unpin(30), api.OK)
	is(t, c.Drop(30), api.OK)
	lists(t, c, span(31, 2), []int{31}, nil)
	tells(t, c, 31, filled(1))
}
