package tl2_test

import (
	"slices"
	"testing"

	"ledgerstone/api"
	"ledgerstone/tl2"
)

// P16.3: Write of the first cell, the last, those between, once and again; no cell has it ahead of the end.
func TestWrite(t *testing.T) {
	for _, n := range []int{1, 2, 3, 200} {
		m := made[int](t, n)
		before := wholeMemory(m)
		x := begun(t, m, 1)
		for _, i := range []int{n - 1, 0, n / 2, 0} {
			for _, v := range []int{5, 0, 6, 6, i} {
				done(t, x.Write(i, v))
				if got, ok := x.Value(i); got != v || !ok {
					t.Fatal(n, i, got, ok, "wanted", v)
				}
			}
		}
		lists(t, x, nil, slices.Compact([]int{0, n / 2, n - 1}), n)
		if after := wholeMemory(m); after != before || x.Status() != tl2.Open {
			t.Fatal(n, before, after, x.Status())
		}
		y := begun(t, m, 2)
		reads(t, y, n-1, 0)
	}
}

// P16.3: Write of no cell of its memory, be it one of a greater memory.
func TestWriteOfNoCell(t *testing.T) {
	for _, i := range noCells(4) {
		refuses(t, func() pair { return busy(t) }, api.ErrArg, writing(i, 5), i)
	}
	for _, n := range []int{1, 2, 1023, 1024} {
		for _, i := range noCells(n) {
			refuses(t, func() pair { m := made[int](t, n); return pair{m, begun(t, m, 1)} }, api.ErrArg, writing(i, 5), n, i)
		}
	}
}

// P16.3: Write asks for neither the owner nor the version of a cell: its end does.
func TestWriteOfOwnedAndNewer(t *testing.T) {
	m := filled(t, 10, 11, 12)
	x := begun(t, m, 1)
	reads(t, x, 2, 12)
	done(t, m.Lock(0, 5))
	changes(t, m, 6, 1, 33)
	changes(t, m, 6, 2, 34)
	done(t, x.Write(0, 1), x.Write(1, 2), x.Write(2, 3))
	lists(t, x, []int{2}, []int{0, 1, 2})
	if x.Status() != tl2.Open {
		t.Fatal(x.Status())
	}
}

// manyWrites is a transaction of owner 1 over 1024 cells, which has written so many of them: cell 2 k with k, the last 56 of 256 in a scope.
func manyWrites(t *testing.T, n int) pair {
	t.Helper()
	m := made[int](t, 1024)
	p := pair{m, begun(t, m, 1)}
	for k := range n {
		if k == 200 {
			done(t, p.x.Mark())
		}
		done(t, p.x.Write(2*k, k))
	}
	return p
}

// P16.3: the 256th cell that is written, and the 257th: it stays Open; those that are writes are written still, and others are read.
func TestWriteOfTooMany(t *testing.T) {
	for _, i := range []int{1, 3, 511, 512, 1023} {
		refuses(t, func() pair { return manyWrites(t, 256) }, api.ErrLong, writing(i, 5), i)
	}
	p := manyWrites(t, 255)
	done(t, p.x.Write(1023, 7))
	for range 3 {
		tells(t, p.x.Write(1021, 8), api.ErrLong)
		if v, ok := p.x.Value(1021); v != 0 || ok || len(p.x.Writes()) != 256 || p.x.Status() != tl2.Open {
			t.Fatal(v, ok, len(p.x.Writes()), p.x.Status())
		}
	}
	done(t, p.x.Write(0, 99), p.x.Write(1023, 98))
	reads(t, p.x, 0, 99)
	reads(t, p.x, 1021, 0)
	reads(t, p.x, 1023, 98)
	done(t, p.x.Undo(), p.x.Write(1021, 8))
	reads(t, p.x, 0, 0)
	reads(t, p.x, 1021, 8)
	reads(t, p.x, 1023, 0)
	if got := len(p.x.Writes()); got != 201 {
		t.Fatal(got)
	}
}

// P16.3: scopes that are kept and undone; Read tells in each what counts there.
func TestScopes(t *testing.T) {
	m := filled(t, 10, 11, 12)
	x := begun(t, m, 1)
	done(t, x.Write(0, 1), x.Mark(), x.Write(0, 2), x.Write(1, 3), x.Mark(), x.Write(0, 4), x.Write(2, 5))
	for i, want := range []int{4, 3, 5} {
		reads(t, x, i, want)
	}
	done(t, x.Keep())
	for i, want := range []int{4, 3, 5} {
		reads(t, x, i, want)
	}
	if x.Depth() != 1 {
		t.Fatal(x.Depth())
	}
	done(t, x.Undo())
	for i, want := range []int{1, 11, 12} {
		reads(t, x, i, want)
	}
	lists(t, x, []int{1, 2}, []int{0})
	if x.Depth() != 0 {
		t.Fatal(x.Depth())
	}
}

// P16.3: Read behind an Undo of what was written: what the cell has; it is a read then, and fails as any other.
func TestReadBehindUndo(t *testing.T) {
	m := filled(t, 10, 11, 12)
	x := begun(t, m, 1)
	done(t, x.Mark(), x.Write(0, 1), x.Write(1, 2), x.Write(2, 3))
	reads(t, x, 0, 1)
	done(t, x.Undo())
	reads(t, x, 0, 10)
	lists(t, x, []int{0}, nil)
	changes(t, m, 9, 1, 33)
	done(t, m.Lock(2, 5))
	y := begun(t, m, 3)
	done(t, y.Mark(), y.Write(2, 4))
	reads(t, y, 2, 4)
	done(t, y.Undo())
	readsNot(t, y, 2, api.ErrStale)
	isFailed(t, m, 3, y)
	readFails(t, m, x, 1)
}

// P16.3: what was read in a scope is a read behind its Undo, too: its end looks at it.
func TestReadInUndoneScope(t *testing.T) {
	m := filled(t, 10, 11)
	x := begun(t, m, 1)
	done(t, x.Mark())
	reads(t, x, 0, 10)
	done(t, x.Write(0, 3), x.Undo(), x.Write(1, 4))
	lists(t, x, []int{0}, []int{1})
	changes(t, m, 9, 0, 33)
	goesOn(t, x, 2)
	failsWith(t, m, 1, x, api.ErrStale)
}

// P16.3: eight scopes, and one more; Keep and Undo where none is open.
func TestScopesRefused(t *testing.T) {
	deep := func() pair {
		p := busy(t)
		for p.x.Depth() < 8 {
			done(t, p.x.Mark(), p.x.Write(2, p.x.Depth()))
		}
		return p
	}
	refuses(t, deep, api.ErrLong, (*tl2.Tx[int]).Mark)
	shut := func() pair { p := busy(t); done(t, p.x.Keep(), p.x.Undo()); return p }
	refuses(t, shut, api.ErrScope, (*tl2.Tx[int]).Keep)
	refuses(t, shut, api.ErrScope, (*tl2.Tx[int]).Undo)
	p := deep()
	for depth := 8; depth > 0; depth-- {
		if got := p.x.Depth(); got != depth {
			t.Fatal(got, depth)
		}
		done(t, []func() api.Errno{p.x.Keep, p.x.Undo}[depth%2]())
	}
	tells(t, p.x.Undo(), api.ErrScope)
}

// P16.3: scopes of which some are open when it ends: what is written in them counts.
func TestEndInScopes(t *testing.T) {
	p := busy(t)
	if status, err := ends(p.x); status != tl2.Done || err != api.OK || p.x.Depth() != 2 {
		t.Fatal(status, err, p.x.Depth())
	}
	has(t, p.m, 0, 20, 1, 0)
	has(t, p.m, 1, 7, 2, 0)
	has(t, p.m, 2, 12, 0, 0)
	has(t, p.m, 3, 6, 2, 0)
}
