package tl2_test

import (
	"fmt"
	"testing"

	"ledgerstone/api"
	"ledgerstone/tl2"
)

// aborts is an Abort of p that is to fail it: no cell but those that it had locked is changed by it, nor the clock, nor its sets.
func aborts(t *testing.T, p pair, what ...any) {
	t.Helper()
	clock, readCells, written, depth := p.m.Clock(), p.x.Reads(), p.x.Writes(), p.x.Depth()
	done(t, p.x.Abort())
	isFailed(t, p.m, 1, p.x, what...)
	lists(t, p.x, readCells, written, what...)
	if p.m.Clock() != clock || p.x.Depth() != depth {
		t.Fatal(p.m.Clock(), clock, p.x.Depth(), depth, what)
	}
}

// P16.5: Abort of an Open one: new, with reads and writes, with scopes, with a fault in its end ahead.
func TestAbortOfOpen(t *testing.T) {
	m := filled(t, 10, 11)
	p := pair{m, begun(t, m, 1)}
	before := wholeMemory(m)
	aborts(t, p)
	p = pair{m, begun(t, m, 1)}
	reads(t, p.x, 0, 10)
	done(t, p.x.Write(1, 5), p.x.Mark(), p.x.Write(0, 6))
	aborts(t, p)
	if after := wholeMemory(m); after != before {
		t.Fatal("not as it was:", before, after)
	}
	p = pair{m, begun(t, m, 1)}
	done(t, p.x.Write(1, 5), m.Lock(1, 7))
	aborts(t, p)
	owns(t, m, 7, 1)
}

// P16.5: Abort behind each step of an end: with no cell locked yet, some, all, behind the clock's advance, behind each look; from the first cell that is published on: ErrOver, and the end goes on.
func TestAbortOfEnding(t *testing.T) {
	build := func() pair { // two cells to write, two reads: 2 + 1 + 2 + 2 steps
		m := filled(t, 10, 11, 12, 13)
		p := pair{m, begun(t, m, 1)}
		reads(t, p.x, 0, 10)
		reads(t, p.x, 1, 11)
		done(t, p.x.Write(1, 5), p.x.Write(2, 6), m.Lock(3, 7))
		return p
	}
	for n := range 8 {
		p := build()
		if n == 7 {
			goesOn(t, p.x, 6)
			steps(t, p.x, tl2.Done)
		} else {
			goesOn(t, p.x, n)
		}
		if n > 5 {
			refuses(t, func() pair {
				p := build()
				for range n {
					p.x.Step()
				}
				return p
			}, api.ErrOver, (*tl2.Tx[int]).Abort, n)
			continue
		}
		aborts(t, p, n)
		for i, want := range []int{10, 11, 12, 13} {
			owner := 0
			if i == 3 {
				owner = 7
			}
			has(t, p.m, i, want, 0, owner, n)
		}
		if want := int64(n / 3); p.m.Clock() != want {
			t.Fatal(n, p.m.Clock())
		}
		if status, err := p.x.Step(); status != tl2.Failed || err != api.ErrOver {
			t.Fatal(n, status, err)
		}
	}
}

// P16.5: one that has one cell alone to publish is never Ending behind it; ahead of it, it can be aborted.
func TestAbortAheadOfTheOnlyCell(t *testing.T) {
	for n := range 4 {
		m := filled(t, 10)
		p := pair{m, begun(t, m, 1)}
		done(t, p.x.Write(0, 5))
		for range n {
			p.x.Step()
		}
		if n == 3 {
			tells(t, p.x.Abort(), api.ErrOver)
			has(t, m, 0, 5, 1, 0)
			continue
		}
		aborts(t, p, n)
		has(t, m, 0, 10, 0, 0)
	}
}

// P16.5: Abort of one that is Done, with writes and without, and that is Failed, in each of the ways there are.
func TestAbortOfOver(t *testing.T) {
	for name, build := range over(t) {
		refuses(t, build, api.ErrOver, (*tl2.Tx[int]).Abort, name)
	}
}

// over is transactions of owner 1 that are over, each with reads, writes and open scopes as they may be.
func over(t *testing.T) map[string]func() pair {
	ended := func() pair {
		p := busy(t)
		ends(p.x)
		return p
	}
	out := map[string]func() pair{
		"done": ended,
		"done without writes": func() pair {
			p := busy(t)
			done(t, p.x.Undo(), p.x.Undo())
			x := begun(t, p.m, 2)
			reads(t, x, 3, 13)
			done(t, x.Mark())
			ends(x)
			return pair{p.m, x}
		},
		"failed by Read": func() pair {
			p := busy(t)
			done(t, p.m.Lock(2, 5))
			p.x.Read(2)
			return p
		},
		"failed by ErrBusy": func() pair {
			p := busy(t)
			done(t, p.m.Lock(3, 5))
			ends(p.x)
			return p
		},
		"failed by ErrStale": func() pair {
			p := busy(t)
			changes(t, p.m, 5, 0, 1)
			ends(p.x)
			return p
		},
		"failed by ErrClock": func() pair {
			p := busy(t)
			setClock(p.m, 1<<40)
			ends(p.x)
			return p
		},
	}
	for n := range 6 { // a lock for each of two cells, the clock, a look at each of two
		out[fmt.Sprint("aborted behind ", n)] = func() pair {
			p := busy(t)
			goesOn(t, p.x, n)
			done(t, p.x.Abort())
			return p
		}
	}
	return out
}

// P16.5: what was aborted gives way: another one locks, reads and writes those cells.
func TestAbortGivesWay(t *testing.T) {
	for n := range 6 {
		p := busy(t)
		goesOn(t, p.x, n)
		done(t, p.x.Abort())
		y := begun(t, p.m, 2)
		for i, want := range []int{20, 11, 12, 13} {
			reads(t, y, i, want)
			done(t, y.Write(i, 90+i))
		}
		if status, err := ends(y); status != tl2.Done || err != api.OK {
			t.Fatal(n, status, err)
		}
		for i := range 4 {
			has(t, p.m, i, 90+i, y.Version(), 0, n)
		}
	}
}
