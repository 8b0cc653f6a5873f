package cache_test

import (
	"testing"

	"ledgerstone/api"
)

// P12.2: blocks that were loaded once each go in the order in which they came, at each room.
func TestFirstComeFirstGone(t *testing.T) {
	c, v, _ := fresh(t, 512, 1)
	for room := 1; room <= 64; room++ {
		c = newCache(t, v, room)
		for i := range 3*room + 1 {
			loads(t, c, 100+i)
			from := max(0, i+1-room)
			holds(t, c, span(100+from, i+1-from)...)
		}
	}
}

// turned is a cache of three slots: 33 in slot 0, 34 in slot 1, 32 in slot 2, to which the hand points; all marks are set.
func turned(t *testing.T) face {
	t.Helper()
	c, _, _ := fresh(t, 64, 3)
	loads(t, c, 30, 31, 32)
	loads(t, c, 33) // all marks are taken off, 30 goes
	holds(t, c, 31, 32, 33)
	loads(t, c, 34) // 31 has no mark
	holds(t, c, 32, 33, 34)
	loads(t, c, 32)
	return c
}

// P12.2: where the hand stands, if all marks are set: it goes round once, and the block goes to which it pointed first.
func TestHandGoesRound(t *testing.T) {
	c := turned(t)
	loads(t, c, 35)
	holds(t, c, 33, 34, 35)
	loads(t, c, 36) // 33's mark was taken off
	holds(t, c, 34, 35, 36)
	loads(t, c, 37)
	holds(t, c, 35, 36, 37)
}

// P12.2: a Load of a held block sets its mark: the hand passes it by once.
func TestLoadSetsTheMark(t *testing.T) {
	c := turned(t)
	loads(t, c, 35) // 33 and 34 lost their marks; the hand points to 33
	loads(t, c, 33)
	loads(t, c, 36)
	holds(t, c, 33, 35, 36)
	loads(t, c, 37) // 35's mark is set, 33's is not any more
	holds(t, c, 35, 36, 37)
}

// P12.3: a Put sets the mark, and Commit leaves it.
func TestPutSetsTheMark(t *testing.T) {
	c := turned(t)
	loads(t, c, 35)
	is(t, c.Put(33, filled(1)), api.OK)
	commits(t, c, 1, api.OK)
	loads(t, c, 36)
	holds(t, c, 33, 35, 36)
}

// P12.3: a Put that is refused sets no mark; nor do Pin and Unpin, nor lists that are told.
func TestOthersSetNoMark(t *testing.T) {
	for i, do := range []func(c face){
		func(c face) { c.Put(33, filled(1)[:4095]) },
		func(c face) { c.Put(33, nil) },
		func(c face) { c.Pin(33); c.Unpin(33) },
		func(c face) { c.Unpin(33) },
		func(c face) { c.Commit() },
		func(c face) { c.Held(); c.Dirty(); c.Pinned() },
	} {
		c := turned(t)
		loads(t, c, 35)
		do(c)
		loads(t, c, 36)
		if c.Held()[0] != 34 {
			t.Fatal(i, c.Held())
		}
	}
}

// P12.2: the mark of a block that is pinned or dirty stays when the hand passes by.
func TestMarksOfThoseThatStay(t *testing.T) {
	for i, kind := range []struct{ stay, free func(c face) api.Errno }{
		{func(c face) api.Errno { return c.Pin(33) }, func(c face) api.Errno { return c.Unpin(33) }},
		{func(c face) api.Errno { return c.Put(33, filled(1)) }, func(c face) api.Errno { _, err := c.Commit(); return err }},
	} {
		c := turned(t)
		is(t, kind.stay(c), api.OK, i)
		loads(t, c, 35) // 32's mark is taken off, 33 stays, 34's mark is taken off, 32 goes
		holds(t, c, 33, 34, 35)
		is(t, kind.free(c), api.OK, i)
		loads(t, c, 36) // 33's mark is taken off, 34 goes
		holds(t, c, 33, 35, 36)
	}
}

// P12.2: the hand goes past blocks that stay, and does not come back to them.
func TestHandPassesThoseThatStay(t *testing.T) {
	c := turned(t)
	is(t, c.Pin(32), api.OK)
	is(t, c.Pin(33), api.OK)
	loads(t, c, 35) // 34's mark is taken off, then it goes; the hand points to 32 again
	holds(t, c, 32, 33, 35)
	is(t, c.Unpin(32), api.OK)
	is(t, c.Unpin(33), api.OK)
	loads(t, c, 36)
	holds(t, c, 33, 35, 36)
}

// P12.2: the hand looks twice as often as there are slots: enough for the one that it comes to last, at each room and from several slots.
func TestHandLooksTwiceRound(t *testing.T) {
	_, v, _ := fresh(t, 512, 1)
	for room := 1; room <= 64; room++ {
		for _, turns := range []int{0, 1, room / 2, room - 1} {
			c := newCache(t, v, room)
			loads(t, c, span(100, room+turns)...) // so many went: the hand stands just behind the one that came last
			last := 100 + room + turns - 1
			loads(t, c, c.Held()...)
			for _, n := range span(100+turns, room-1) {
				is(t, c.Pin(n), api.OK)
			}
			loads(t, c, 400)
			holds(t, c, append(span(100+turns, room-1), 400)...)
			is(t, c.Drop(last), api.ErrArg, room, turns)
		}
	}
}

// P12.2: behind a Load that found no room the hand stands where it stood, and the marks are what they were.
func TestHandBehindNoRoom(t *testing.T) {
	for busy := range 4 {
		for i, k := range []struct {
			ahead []int
			then  [][]int // what is held behind a Load of 36, then of 37
		}{
			{nil, [][]int{{33, 34, 36}, {34, 36, 37}}},           // all marks are set, the hand points to 32
			{[]int{35}, [][]int{{34, 35, 36}, {35, 36, 37}}},     // 33 and 34 have lost their marks, the hand points to 33
			{[]int{35, 33}, [][]int{{33, 35, 36}, {35, 36, 37}}}, // 34 has lost its mark, the hand points to 33
		} {
			c := turned(t)
			loads(t, c, k.ahead...)
			held := c.Held()
			for _, n := range held {
				is(t, c.Pin(n), api.OK)
			}
			for range busy {
				refused(t, c, 40, api.ErrBusy)
			}
			lists(t, c, held, nil, held, busy, i)
			for _, n := range held {
				is(t, c.Unpin(n), api.OK)
			}
			for j, want := range k.then {
				loads(t, c, 36+j)
				holds(t, c, want...)
			}
		}
	}
}

// P12.2: a block that is loaded comes into the least empty slot, and the hand stays where it is.
func TestLeastEmptySlot(t *testing.T) {
	c, _, _ := fresh(t, 64, 4)
	loads(t, c, 30, 31, 32, 33)
	for _, n := range []int{33, 32, 30} {
		is(t, c.Drop(n), api.OK)
	}
	loads(t, c, 40, 41, 42) // into slots 0, 2 and 3
	loads(t, c, 50)
	holds(t, c, 31, 41, 42, 50)
	loads(t, c, 51)
	holds(t, c, 41, 42, 50, 51)
	loads(t, c, 52)
	holds(t, c, 42, 50, 51, 52)
	loads(t, c, 53)
	holds(t, c, 50, 51, 52, 53)

	c, _, _ = fresh(t, 64, 3)
	loads(t, c, 30, 31, 32, 33) // the hand points to slot 1, 31 and 32 have no marks
	is(t, c.Drop(33), api.OK)
	loads(t, c, 34) // into slot 0; the hand stays
	loads(t, c, 35)
	holds(t, c, 32, 34, 35)
	is(t, c.Drop(32), api.OK) // to which the hand points
	loads(t, c, 36)
	loads(t, c, 37) // all marks are set: 36 goes
	holds(t, c, 34, 35, 37)
}

// P12.2: with an empty slot none goes and no mark is taken off.
func TestEmptySlotTakesNoMark(t *testing.T) {
	c := turned(t)
	is(t, c.Drop(34), api.OK)
	loads(t, c, 40) // into slot 1: 33, 40 and 32 have their marks, the hand points to 32
	holds(t, c, 32, 33, 40)
	loads(t, c, 35)
	holds(t, c, 33, 35, 40)
}
