package sets_test

import (
	"fmt"
	"testing"

	"ledgerstone/api"
	"ledgerstone/sets"
)

// opened are sets with so many scopes, in each of which cell 0 and a cell of its own were written.
func opened(t *testing.T, depth int) *sets.Sets[int] {
	t.Helper()
	s := sets.New[int]()
	done(t, s.Write(0, 10), s.Write(10, 1))
	for k := 1; k <= depth; k++ {
		done(t, s.Mark(), s.Write(0, 10+k), s.Write(10+k, 1))
	}
	return s
}

// P15.4: eight marks, and one more; Depth behind each.
func TestMark(t *testing.T) {
	s := sets.New[int]()
	for k := range 8 {
		deep(t, s, k)
		done(t, s.Mark())
	}
	deep(t, s, 8)
	for range 3 {
		tells(t, s.Mark(), api.ErrLong)
		deep(t, s, 8)
	}
	refuses(t, func() *sets.Sets[int] { return opened(t, 8) }, api.ErrLong, (*sets.Sets[int]).Mark)
	done(t, s.Keep(), s.Mark())
	tells(t, s.Mark(), api.ErrLong)
	done(t, s.Undo(), s.Undo(), s.Mark(), s.Mark())
	tells(t, s.Mark(), api.ErrLong)
	for k := 8; k > 0; k-- {
		deep(t, s, k)
		done(t, s.Undo())
	}
	deep(t, s, 0)
}

// P15.4: a Mark changes nothing but the depth.
func TestMarkLeavesAll(t *testing.T) {
	s, same := sets.New[int](), sets.New[int]()
	for _, x := range []*sets.Sets[int]{s, same} {
		done(t, x.Write(3, 4), x.Write(1023, 5), x.Read(3, 6), x.Read(0, 0))
	}
	done(t, s.Mark(), s.Mark())
	deep(t, s, 2)
	done(t, same.Mark(), same.Keep(), same.Mark(), same.Undo())
	deep(t, same, 0)
	for _, x := range []*sets.Sets[int]{s, same} {
		has(t, x, 3, 4)
		has(t, x, 1023, 5)
		sees(t, x, 3, 6)
		sees(t, x, 0, 0)
		reads(t, x, 0, 3)
		writes(t, x, 3, 1023)
	}
}

// P15.4: Keep and Undo with no scope open, of new sets and of those whose scopes are closed.
func TestNoScope(t *testing.T) {
	for _, build := range []func() *sets.Sets[int]{
		sets.New[int],
		func() *sets.Sets[int] { return opened(t, 0) },
		func() *sets.Sets[int] { s := opened(t, 1); done(t, s.Keep()); return s },
		func() *sets.Sets[int] { s := opened(t, 1); done(t, s.Undo(), s.Read(3, 4)); return s },
		func() *sets.Sets[int] { s := opened(t, 2); done(t, s.Undo(), s.Keep()); return s },
	} {
		refuses(t, build, api.ErrScope, (*sets.Sets[int]).Keep)
		refuses(t, build, api.ErrScope, (*sets.Sets[int]).Undo)
		s := build()
		tells(t, s.Undo(), api.ErrScope)
		done(t, s.Mark(), s.Write(1, 1))
		deep(t, s, 1)
		done(t, s.Undo())
		hasNone(t, s, 1)
	}
}

// P15.4: Depth behind each call, of those that tell OK and of those that do not.
func TestDepth(t *testing.T) {
	s := sets.New[int]()
	for want := range 9 {
		stays := func(what string, err api.Errno) {
			t.Helper()
			deep(t, s, want, what, err)
		}
		stays("Read", s.Read(want, 1))
		stays("Read", s.Read(want, 2))
		stays("Read", s.Read(-1, 2))
		stays("Write", s.Write(want, 1))
		stays("Write", s.Write(1024, 1))
		s.Seen(want)
		s.Value(want)
		s.Reads()
		s.Writes()
		stays("asked", api.OK)
		if want < 8 {
			done(t, s.Mark(), s.Keep(), s.Mark(), s.Undo())
			stays("opened and closed", api.OK)
			done(t, s.Mark())
		}
	}
	for want := 8; want > 0; want-- {
		deep(t, s, want)
		if want%2 == 0 {
			done(t, s.Keep())
		} else {
			done(t, s.Undo())
		}
	}
	deep(t, s, 0)
	tells(t, s.Keep(), api.ErrScope)
	tells(t, s.Undo(), api.ErrScope)
	deep(t, s, 0)
}

// P15.4: Undo of a cell that was written first in the scope, that was written ahead of it, and that was not written in it.
func TestUndo(t *testing.T) {
	s := sets.New[string]()
	done(t, s.Write(1, "a"), s.Write(2, "b"), s.Mark(), s.Write(2, "c"), s.Write(3, "d"), s.Write(2, "e"), s.Write(3, "f"))
	has(t, s, 1, "a")
	has(t, s, 2, "e")
	has(t, s, 3, "f")
	writes(t, s, 1, 2, 3)
	done(t, s.Undo())
	has(t, s, 1, "a")
	has(t, s, 2, "b")
	hasNone(t, s, 3)
	writes(t, s, 1, 2)
	done(t, s.Write(3, "g"), s.Write(1, "h"))
	has(t, s, 3, "g")
	has(t, s, 1, "h")
	writes(t, s, 1, 2, 3)
}

// P15.4: what is written between two scopes stays when the second one is undone.
func TestUndoOfLaterScope(t *testing.T) {
	s := sets.New[int]()
	done(t, s.Mark(), s.Write(1, 1), s.Undo(), s.Write(1, 2), s.Mark(), s.Write(1, 3), s.Keep(), s.Write(2, 4), s.Mark(), s.Write(1, 5), s.Write(2, 6), s.Undo())
	has(t, s, 1, 3)
	has(t, s, 2, 4)
	writes(t, s, 1, 2)
}

// P15.4: reads stay, in whichever scope they were, and whichever is undone.
func TestUndoLeavesReads(t *testing.T) {
	s := sets.New[int]()
	for k := range 9 {
		done(t, s.Read(8-k, int64(k)), s.Write(k, k))
		if k < 8 {
			done(t, s.Mark())
		}
	}
	for s.Depth() > 0 {
		done(t, s.Undo())
		reads(t, s, 0, 1, 2, 3, 4, 5, 6, 7, 8)
		for k := range 9 {
			sees(t, s, 8-k, int64(k))
			tells(t, s.Read(8-k, int64(k+1)), api.ErrStale)
		}
	}
	writes(t, s, 0)
}

// P15.4: a cell that is written in several scopes, each one kept or undone: all ways there are, of eight scopes.
func TestScopesKeptOrUndone(t *testing.T) {
	for depth := range 9 {
		for kept := range 1 << depth {
			s := opened(t, depth)
			top := depth // the scope whose value cell 0 has
			for level := depth; level > 0; level-- {
				has(t, s, 0, 10+top, depth, kept, level)
				if kept>>(level-1)&1 == 1 {
					done(t, s.Keep())
				} else {
					done(t, s.Undo())
					top = level - 1
				}
				deep(t, s, level-1)
				for k := range depth + 1 {
					if k <= top {
						has(t, s, 10+k, 1, depth, kept, level)
					} else {
						hasNone(t, s, 10+k, depth, kept, level)
					}
				}
			}
			has(t, s, 0, 10+top, depth, kept)
		}
	}
}

// P15.4: Keep, then Undo of the scope around it: all that was written in both is gone.
func TestKeepThenUndo(t *testing.T) {
	s := sets.New[string]()
	done(t, s.Write(1, "a"), s.Mark(), s.Write(2, "b"), s.Mark(), s.Write(1, "c"), s.Write(2, "d"), s.Write(3, "e"), s.Read(4, 1), s.Keep())
	has(t, s, 1, "c")
	has(t, s, 2, "d")
	has(t, s, 3, "e")
	deep(t, s, 1)
	done(t, s.Undo())
	has(t, s, 1, "a")
	hasNone(t, s, 2)
	hasNone(t, s, 3)
	sees(t, s, 4, 1)
	deep(t, s, 0)
	writes(t, s, 1)
}

// P15.4: Keep leaves all that is read and written, of one scope and of the last of eight.
func TestKeep(t *testing.T) {
	for depth := 1; depth <= 8; depth++ {
		s := opened(t, depth)
		done(t, s.Read(5, 6))
		for level := depth - 1; level >= 0; level-- {
			done(t, s.Keep())
			deep(t, s, level)
			has(t, s, 0, 10+depth)
			for k := range depth + 1 {
				has(t, s, 10+k, 1)
			}
			sees(t, s, 5, 6)
		}
		if got := fmt.Sprint(s.Writes(), s.Reads()); got != fmt.Sprint(append([]int{0}, upTo(10, 10+depth)...), []int{5}) {
			t.Fatal(depth, got)
		}
	}
}

// upTo is the numbers from first to last.
func upTo(first, last int) []int {
	var out []int
	for i := first; i <= last; i++ {
		out = append(out, i)
	}
	return out
}
