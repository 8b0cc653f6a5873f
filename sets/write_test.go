package sets_test

import (
	"testing"

	"ledgerstone/api"
	"ledgerstone/sets"
)

// P15.2: Write of each kind of cell, once and again: the last value counts; the others stay.
func TestWrite(t *testing.T) {
	s := sets.New[string]()
	cells := []int{1023, 0, 512, 1, 1022, 255, 256}
	last := map[int]string{}
	for _, v := range []string{"a", "b", "b", "", "c", "\x00"} {
		for _, i := range cells {
			done(t, s.Write(i, v))
			last[i] = v
			for _, j := range cells {
				if want, ok := last[j]; ok {
					has(t, s, j, want, i, v)
				} else {
					hasNone(t, s, j, i, v)
				}
			}
		}
	}
	writes(t, s, 0, 1, 255, 256, 512, 1022, 1023)
	reads(t, s)
	for _, i := range cells {
		sawNone(t, s, i)
	}
}

// P15.2: every cell may be written, and no other number.
func TestWriteOfEachCell(t *testing.T) {
	for i := range 1024 {
		s := sets.New[int]()
		done(t, s.Write(i, i))
		for j := -1; j <= 1024; j++ {
			if j != i {
				hasNone(t, s, j, i)
			}
		}
		has(t, s, i, i)
		writes(t, s, i)
	}
	for _, i := range noCells() {
		s := sets.New[int]()
		tells(t, s.Write(i, 5), api.ErrArg, i)
		hasNone(t, s, i)
		done(t, s.Write(0, 6), s.Mark(), s.Write(1023, 7))
		tells(t, s.Write(i, 5), api.ErrArg, i)
		hasNone(t, s, i)
		writes(t, s, 0, 1023)
		done(t, s.Undo())
		writes(t, s, 0)
	}
}

// P15.2: a value that is nothing is written as any other: Value tells true.
func TestWriteOfNothing(t *testing.T) {
	s := sets.New[any]()
	hasNone(t, s, 3)
	done(t, s.Write(3, nil))
	has(t, s, 3, nil)
	writes(t, s, 3)
	done(t, s.Mark(), s.Write(3, "x"), s.Write(4, nil), s.Mark(), s.Write(3, nil))
	has(t, s, 3, nil)
	done(t, s.Undo())
	has(t, s, 3, "x")
	has(t, s, 4, nil)
	done(t, s.Undo())
	has(t, s, 3, nil)
	hasNone(t, s, 4)
	writes(t, s, 3)
	n := sets.New[int]()
	done(t, n.Write(0, 5), n.Write(0, 0), n.Write(1, 0))
	has(t, n, 0, 0)
	has(t, n, 1, 0)
	writes(t, n, 0, 1)
}

// manyWrites are sets with n writes, of the cells 0, 4, 8 and so on, cell i with i + 1.
func manyWrites(t *testing.T, n int) *sets.Sets[int] {
	t.Helper()
	s := sets.New[int]()
	for k := range n {
		done(t, s.Write(4*k, 4*k+1))
	}
	return s
}

// P15.2: the 256th write, one more, and one that is there already, in scopes too.
func TestWriteOfTooMany(t *testing.T) {
	full := func() *sets.Sets[int] {
		t.Helper()
		s := manyWrites(t, 250)
		done(t, s.Mark())
		for k := range 5 {
			done(t, s.Write(1023-2*k, k))
		}
		done(t, s.Mark(), s.Write(1, 1), s.Mark())
		if got := len(s.Writes()); got != 256 {
			t.Fatal(got)
		}
		return s
	}
	for _, i := range []int{2, 3, 5, 1000, 1022} {
		refuses(t, full, api.ErrLong, func(s *sets.Sets[int]) api.Errno { return s.Write(i, 0) }, i)
		refuses(t, full, api.ErrLong, func(s *sets.Sets[int]) api.Errno { return s.Write(i, 9) }, i)
	}
	s := full()
	for _, i := range []int{0, 1, 4, 996, 1015, 1023} {
		done(t, s.Write(i, -i), s.Write(i, -i-1))
		has(t, s, i, -i-1)
	}
	tells(t, s.Write(2, 0), api.ErrLong)
	done(t, s.Undo())
	tells(t, s.Write(2, 0), api.ErrLong)
	done(t, s.Undo(), s.Write(2, 7))
	tells(t, s.Write(1, 0), api.ErrLong)
	done(t, s.Keep(), s.Write(2, 8))
	tells(t, s.Write(1, 0), api.ErrLong)
	has(t, s, 2, 8)
	has(t, s, 0, 1)
	has(t, s, 1023, 0)
	has(t, s, 1021, 1)
}

// P15.2, P15.4: Undo behind 256 writes, of which some were there ahead of it, or all, or none; there is as much room as there was, and a Write takes it again.
func TestUndoOfManyWrites(t *testing.T) {
	for _, ahead := range []int{0, 1, 100, 255, 256} {
		s := manyWrites(t, ahead)
		for round := range 3 {
			before := whole(s, 1024)
			done(t, s.Mark())
			for k := range 256 {
				done(t, s.Write(4*k, 1000*round+k))
			}
			tells(t, s.Write(1, 0), api.ErrLong, ahead, round)
			for k := range 256 {
				has(t, s, 4*k, 1000*round+k)
			}
			done(t, s.Undo())
			if after := whole(s, 1024); after != before {
				t.Fatal(ahead, round, before, after)
			}
		}
		for k := range 256 - ahead { // other cells than those that were undone
			done(t, s.Write(4*k+1, k))
		}
		tells(t, s.Write(2, 0), api.ErrLong, ahead)
		for k := range 256 - ahead {
			has(t, s, 4*k+1, k)
		}
		for k := range 256 {
			if k < ahead {
				has(t, s, 4*k, 4*k+1)
			} else {
				hasNone(t, s, 4*k)
			}
		}
	}
}

// P15.2: Value of numbers that are no cells, and of cells that were not written, in sets that have reads and writes.
func TestValueOfNone(t *testing.T) {
	s := manyWrites(t, 100)
	done(t, s.Read(1, 5), s.Read(1023, 6))
	for range 2 {
		for _, i := range noCells() {
			hasNone(t, s, i)
		}
		for i := range 1024 {
			if i%4 == 0 && i < 400 {
				has(t, s, i, i+1)
			} else {
				hasNone(t, s, i)
			}
		}
	}
}
