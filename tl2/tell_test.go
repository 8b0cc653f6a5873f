package tl2_test

import (
	"fmt"
	"testing"

	"ledgerstone/api"
	"ledgerstone/cell"
	"ledgerstone/tl2"
)

// notOpen is transactions that can't be read or written any more: each that is over, and those behind each step of an end.
func notOpen(t *testing.T) map[string]func() pair {
	out := over(t)
	for n := 1; n <= 6; n++ {
		out[fmt.Sprint("ending behind ", n)] = func() pair {
			p := busy(t)
			goesOn(t, p.x, n)
			return p
		}
	}
	return out
}

// P16.2, P16.3: each call of one that is Ending, Done and Failed: ErrOver, whatever the arguments are.
func TestCallsOfNotOpen(t *testing.T) {
	for name, build := range notOpen(t) {
		for _, i := range append(noCells(4), 0, 1, 2, 3) {
			refuses(t, build, api.ErrOver, reading(t, i), name, "Read", i)
			refuses(t, build, api.ErrOver, writing(i, 5), name, "Write", i)
		}
		refuses(t, build, api.ErrOver, (*tl2.Tx[int]).Mark, name, "Mark")
		refuses(t, build, api.ErrOver, (*tl2.Tx[int]).Keep, name, "Keep")
		refuses(t, build, api.ErrOver, (*tl2.Tx[int]).Undo, name, "Undo")
	}
}

// P16.2, P16.3: ErrOver counts ahead of what else would be told: too many cells, too many scopes, none.
func TestOverAheadOfLong(t *testing.T) {
	for _, end := range []func(x *tl2.Tx[int]){
		func(x *tl2.Tx[int]) { x.Step() },
		func(x *tl2.Tx[int]) { x.Abort() },
		func(x *tl2.Tx[int]) { ends(x) },
	} {
		full := func() pair {
			p := many(t, 256)
			for k := range 256 {
				done(t, p.x.Write(2*k, k))
			}
			for range 8 {
				done(t, p.x.Mark())
			}
			end(p.x)
			return p
		}
		refuses(t, full, api.ErrOver, reading(t, 1))
		refuses(t, full, api.ErrOver, writing(1, 5))
		refuses(t, full, api.ErrOver, (*tl2.Tx[int]).Mark)
		empty := func() pair {
			m := made[int](t, 1)
			x := begun(t, m, 1)
			end(x)
			return pair{m, x}
		}
		refuses(t, empty, api.ErrOver, (*tl2.Tx[int]).Keep)
		refuses(t, empty, api.ErrOver, (*tl2.Tx[int]).Undo)
	}
}

// P16.4: Step of one that is Done or Failed: its status beside ErrOver, time and again.
func TestStepOfOver(t *testing.T) {
	for name, build := range over(t) {
		want := build().x.Status()
		if (want == tl2.Done) != (name[:4] == "done") || want != tl2.Done && want != tl2.Failed {
			t.Fatal("the test itself", name, want)
		}
		refuses(t, build, api.ErrOver, stepping(t, want), name)
	}
}

// P16.6: Reads, Writes, Value, Seen, Depth and Cells in each status: as they were when it was Open.
func TestSetsInEachStatus(t *testing.T) {
	statuses := map[tl2.Status]int{}
	for name, build := range notOpen(t) {
		p := build()
		statuses[p.x.Status()]++
		if name == "done without writes" {
			lists(t, p.x, []int{3}, nil)
			if version, ok := p.x.Seen(3); version != 0 || !ok || p.x.Depth() != 1 || p.x.Cells() != 4 {
				t.Fatal(version, ok, p.x.Depth(), p.x.Cells())
			}
			continue
		}
		lists(t, p.x, []int{0, 1}, []int{1, 3}, name)
		for i, want := range []string{"0 false 1 true", "7 true 0 true", "0 false 0 false", "6 true 0 false"} {
			v, isWritten := p.x.Value(i)
			version, isRead := p.x.Seen(i)
			if got := fmt.Sprint(v, isWritten, version, isRead); got != want {
				t.Fatal(name, i, got, "wanted", want)
			}
		}
		if p.x.Depth() != 2 || p.x.Cells() != 4 {
			t.Fatal(name, p.x.Depth(), p.x.Cells())
		}
	}
	if len(statuses) != 3 {
		t.Fatal("the test itself", statuses)
	}
}

// P16.6: Value and Seen of numbers that are no cells, and of cells that were not written or read.
func TestTellsOfNoCell(t *testing.T) {
	builds := notOpen(t)
	builds["open"] = func() pair { return busy(t) }
	for name, build := range builds {
		p := build()
		for _, i := range append(noCells(4), 2) {
			v, isWritten := p.x.Value(i)
			version, isRead := p.x.Seen(i)
			if v != 0 || isWritten || version != 0 || isRead {
				t.Fatal(name, i, v, isWritten, version, isRead)
			}
		}
	}
}

// P16.6: Version and Claimed of each that is not Done, and not Ending with a version.
func TestVersionAndClaimed(t *testing.T) {
	for name, build := range notOpen(t) {
		p := build()
		version, claimed := int64(0), int64(0)
		switch name {
		case "done":
			version = 2
		case "done without writes":
			version = 1
		case "ending behind 3", "ending behind 4", "ending behind 5", "ending behind 6":
			claimed = 2
		}
		for range 2 {
			if p.x.Version() != version || p.x.Claimed() != claimed {
				t.Fatal(name, p.x.Version(), p.x.Claimed(), "wanted", version, claimed)
			}
		}
	}
	p := busy(t)
	if p.x.Version() != 0 || p.x.Claimed() != 0 || p.x.Status() != tl2.Open {
		t.Fatal(p.x.Version(), p.x.Claimed(), p.x.Status())
	}
}

// P16.6: the version of one that is Done stays, whatever the clock does; so does that of one that is Ending.
func TestVersionStays(t *testing.T) {
	m := made[int](t, 3)
	x, y := begun(t, m, 1), begun(t, m, 2)
	done(t, x.Write(0, 1), y.Write(1, 1))
	goesOn(t, x, 2)
	goesOn(t, y, 2)
	changes(t, m, 9, 2, 5)
	if x.Claimed() != 1 || y.Claimed() != 2 {
		t.Fatal(x.Claimed(), y.Claimed())
	}
	steps(t, x, tl2.Done)
	changes(t, m, 9, 2, 6)
	changes(t, m, 9, 0, 7)
	if x.Version() != 1 || x.Claimed() != 0 || y.Claimed() != 2 || m.Clock() != 5 {
		t.Fatal(x.Version(), x.Claimed(), y.Claimed(), m.Clock())
	}
	steps(t, y, tl2.Done)
	has(t, m, 1, 1, 2, 0)
}

// P16.6: Cells is how many cells the memory has.
func TestCells(t *testing.T) {
	for n := 1; n <= 1024; n++ {
		x := begun(t, made[int](t, n), 1)
		if x.Cells() != n {
			t.Fatal(n, x.Cells())
		}
	}
}

// P16.6: what is asked changes nothing.
func TestAskingChangesNothing(t *testing.T) {
	builds := notOpen(t)
	builds["open"] = func() pair { return busy(t) }
	for name, build := range builds {
		p, same := build(), build()
		for range 3 {
			p.whole()
		}
		if got, wanted := p.rest(), same.rest(); got != wanted {
			t.Fatal(name, got, wanted)
		}
	}
}

// notTransactions are transactions that Begin did not answer, and none.
func notTransactions[T any](t *testing.T, v T) []*tl2.Tx[T] {
	t.Helper()
	m := made[T](t, 2)
	x, ending, failed := begun(t, m, 1), begun(t, m, 2), begun(t, m, 3)
	done(t, x.Write(1, v), x.Mark(), ending.Write(0, v), failed.Abort())
	ending.Step()
	copied, copiedEnding, copiedFailed := *x, *ending, *failed
	other := begun(t, m, 4)
	*other = *x
	emptied := begun(t, m, 5)
	*emptied = tl2.Tx[T]{}
	var within struct{ x tl2.Tx[T] }
	within.x = *x
	return []*tl2.Tx[T]{nil, {}, new(tl2.Tx[T]), &copied, &copiedEnding, &copiedFailed, other, emptied, &within.x}
}

// noTransaction asks each call of each transaction that is none, whatever the arguments are.
func noTransaction[T comparable](t *testing.T, v T) {
	t.Helper()
	var nothing T
	for k, x := range notTransactions(t, v) {
		for range 2 {
			for _, i := range append(noCells(2), 0, 1) {
				readsNot(t, x, i, api.ErrNil, k)
				tells(t, x.Write(i, v), api.ErrNil, k, i)
				got, isWritten := x.Value(i)
				version, isRead := x.Seen(i)
				if got != nothing || isWritten || version != 0 || isRead {
					t.Fatal(k, i, got, isWritten, version, isRead)
				}
			}
			for _, err := range []api.Errno{x.Mark(), x.Keep(), x.Undo(), x.Abort()} {
				tells(t, err, api.ErrNil, k)
			}
			if status, err := x.Step(); status != 0 || err != api.ErrNil {
				t.Fatal(k, status, err)
			}
			if x.Status() != 0 || x.Version() != 0 || x.Claimed() != 0 || x.Depth() != 0 || x.Cells() != 0 {
				t.Fatal(k, whole(x, 0))
			}
			lists(t, x, nil, nil, k)
		}
	}
}

// R5: a transaction that is nil, or that Begin did not answer: over plain numbers, and over something else.
func TestNoTransaction(t *testing.T) {
	noTransaction(t, 5)
	noTransaction(t, "text")
	noTransaction(t, any(&pair{}))
	noTransaction(t, struct{}{})
}

// R5: a copy by value is no transaction, and what is asked of it leaves the one that it is of, and the memory, as they were.
func TestCopyLeavesTheFirst(t *testing.T) {
	for n := range 7 {
		build := func() pair {
			p := busy(t)
			goesOn(t, p.x, n)
			return p
		}
		refuses(t, build, api.ErrNil, func(x *tl2.Tx[int]) api.Errno {
			copied := *x
			copied.Read(0)
			copied.Write(0, 5)
			copied.Undo()
			copied.Step()
			return copied.Abort()
		}, n)
	}
}

// R1: a memory that is emptied under a transaction: each call ends, and none panics.
func TestMemoryEmptied(t *testing.T) {
	for n := range 7 {
		p := busy(t)
		goesOn(t, p.x, n)
		*p.m = cell.Memory[int]{}
		for i := -1; i <= 4; i++ {
			p.x.Read(i)
			p.x.Write(i, 5)
		}
		p.whole()
		if status, err := ends(p.x); status != tl2.Failed || err == api.OK {
			t.Fatal(n, status, err)
		}
		tells(t, p.x.Abort(), api.ErrOver)
		if p.x.Cells() != 0 {
			t.Fatal(p.x.Cells())
		}
	}
	p := busy(t)
	*p.m = cell.Memory[int]{}
	done(t, p.x.Abort())
}
