package tl2_test

import (
	"slices"
	"testing"

	"ledgerstone/api"
	"ledgerstone/cell"
	"ledgerstone/tl2"
)

// P16.4: a transaction without writes, with reads and without: Done with one step, with its beginning as version; nothing is looked at, and the memory stays.
func TestStepWithoutWrites(t *testing.T) {
	for _, beginning := range []int64{0, 1, 5} {
		for _, kind := range []string{"nothing", "reads", "stale reads", "undone writes", "owned reads"} {
			m := filled(t, 10, 11)
			advanced(t, m, beginning)
			x := begun(t, m, 1)
			if kind != "nothing" && kind != "undone writes" {
				reads(t, x, 0, 10)
				reads(t, x, 1, 11)
			}
			switch kind {
			case "stale reads":
				changes(t, m, 9, 0, 33)
			case "undone writes":
				done(t, x.Mark(), x.Write(0, 1), x.Undo(), x.Mark())
			case "owned reads":
				done(t, m.Lock(1, 5))
			}
			advanced(t, m, 7)
			before := wholeMemory(m)
			steps(t, x, tl2.Done)
			if after := wholeMemory(m); after != before || x.Version() != beginning || x.Claimed() != 0 {
				t.Fatal(beginning, kind, before, after, x.Version(), x.Claimed())
			}
			owns(t, m, 1)
		}
	}
}

// subset is the cells of 0 to 2 whose bits are set, falling where odd: the order of the calls counts for nothing.
func subset(bits int, falling bool) []int {
	var out []int
	for i := range 3 {
		if bits>>i&1 == 1 {
			out = append(out, i)
		}
	}
	if falling {
		slices.Reverse(out)
	}
	return out
}

// P16.4, P16.6: each step of an end, of all that may be read and written of three cells: what is locked, the clock, what is published, the status, Version and Claimed behind each.
func TestStepsInOrder(t *testing.T) {
	for bits := range 64 {
		for _, falling := range []bool{false, true} {
			readCells, written := subset(bits>>3, falling), subset(bits&7, falling)
			if len(written) == 0 {
				continue
			}
			m := filled(t, 10, 11, 12)
			changes(t, m, 9, 1, 21)
			x := begun(t, m, 1)
			advanced(t, m, 4)
			for _, i := range readCells {
				reads(t, x, i, []int{10, 21, 12}[i])
			}
			for _, i := range written {
				done(t, x.Write(i, 30+i))
			}
			slices.Sort(written)
			versions, values := []int64{0, 1, 0}, []int{10, 21, 12}
			stands := func(status tl2.Status, clock, version, claimed int64, owned []int) {
				t.Helper()
				if x.Status() != status || m.Clock() != clock || x.Version() != version || x.Claimed() != claimed {
					t.Fatal(bits, x.Status(), m.Clock(), x.Version(), x.Claimed(), "wanted", status, clock, version, claimed)
				}
				owns(t, m, 1, owned...)
				for i := range 3 {
					owner := 0
					if slices.Contains(owned, i) {
						owner = 1
					}
					has(t, m, i, values[i], versions[i], owner, bits)
				}
			}
			stands(tl2.Open, 4, 0, 0, nil)
			for k := range written {
				steps(t, x, tl2.Ending)
				stands(tl2.Ending, 4, 0, 0, written[:k+1])
			}
			for range 1 + len(readCells) { // the clock, and a look at each
				steps(t, x, tl2.Ending)
				stands(tl2.Ending, 5, 0, 5, written)
			}
			for k, i := range written {
				values[i], versions[i] = 30+i, 5
				if k < len(written)-1 {
					steps(t, x, tl2.Ending)
					stands(tl2.Ending, 5, 0, 5, written[k+1:])
				}
			}
			steps(t, x, tl2.Done)
			stands(tl2.Done, 5, 5, 0, nil)
		}
	}
}

// P16.4: as many reads and writes as there may be: a step for each.
func TestStepsOfManyCells(t *testing.T) {
	m := made[int](t, 1024)
	x := begun(t, m, 1)
	for k := range 256 {
		reads(t, x, 3*k, 0)
	}
	for k := range 256 {
		done(t, x.Write(4*(255-k), k+1))
	}
	for k := range 256 {
		steps(t, x, tl2.Ending)
		if got := m.Owned(1); len(got) != k+1 || got[k] != 4*k {
			t.Fatal(k, got)
		}
	}
	goesOn(t, x, 1+256)
	for k := range 255 {
		steps(t, x, tl2.Ending)
		has(t, m, 4*k, 256-k, 1, 0)
		has(t, m, 4*k+4, 0, 0, 1)
	}
	steps(t, x, tl2.Done)
	has(t, m, 1020, 1, 1, 0)
	owns(t, m, 1)
}

// P16.4: a cell that has another owner when its turn to be locked comes, the first, the last, one between: ErrBusy; what was locked is free again.
func TestStepWhereBusy(t *testing.T) {
	for n := 1; n <= 4; n++ {
		for at := range n {
			for _, owner := range owners()[1:] {
				m := made[int](t, 5)
				x := begun(t, m, 1)
				for i := n - 1; i >= 0; i-- {
					done(t, x.Write(i, 7))
				}
				reads(t, x, 4, 0)
				done(t, m.Lock(at, owner), m.Lock(4, owner))
				before := wholeMemory(m)
				goesOn(t, x, at)
				failsWith(t, m, 1, x, api.ErrBusy, n, at, owner)
				if after := wholeMemory(m); after != before {
					t.Fatal("not as it was:", before, after)
				}
			}
		}
	}
}

// P16.4: a cell is asked for its owner in its own step: not ahead of that.
func TestBusyInItsStep(t *testing.T) {
	m := made[int](t, 3)
	x := begun(t, m, 1)
	done(t, x.Write(0, 1), x.Write(1, 2), x.Write(2, 3), m.Lock(1, 5))
	steps(t, x, tl2.Ending)
	owns(t, m, 1, 0)
	tells(t, m.Lock(0, 5), api.ErrBusy)
	done(t, m.Lock(2, 6), m.Unlock(1, 5))
	steps(t, x, tl2.Ending)
	owns(t, m, 1, 0, 1)
	done(t, m.Unlock(2, 6))
	goesOn(t, x, 1+1+2)
	steps(t, x, tl2.Done)
}

// P16.4: two transactions that write the same cells: who locks first goes on.
func TestTwoWriters(t *testing.T) {
	m := made[string](t, 2)
	x, y := begun(t, m, 1), begun(t, m, 2)
	done(t, x.Write(0, "a"), x.Write(1, "b"), y.Write(1, "c"))
	steps(t, y, tl2.Ending)
	steps(t, x, tl2.Ending)
	failsWith(t, m, 1, x, api.ErrBusy)
	owns(t, m, 2, 1)
	goesOn(t, y, 1)
	steps(t, y, tl2.Done)
	has(t, m, 0, "", 0, 0)
	has(t, m, 1, "c", 1, 0)
}

// P16.4: a version that is above the beginning of a cell that is written, but was not read, is no fault.
func TestWriteOverNewer(t *testing.T) {
	m := made[int](t, 1)
	x := begun(t, m, 1)
	done(t, x.Write(0, 5))
	changes(t, m, 9, 0, 33)
	changes(t, m, 9, 0, 34)
	goesOn(t, x, 2)
	steps(t, x, tl2.Done)
	has(t, m, 0, 5, 3, 0)
	if x.Version() != 3 {
		t.Fatal(x.Version())
	}
}

// looker is a transaction of owner 1 that has read cells 1 to n and writes cell 0, behind its Steps up to the clock's.
func looker(t *testing.T, n int) (*cell.Memory[int], *tl2.Tx[int]) {
	t.Helper()
	m := made[int](t, n+1)
	x := begun(t, m, 1)
	for i := n; i >= 1; i-- {
		reads(t, x, i, 0)
	}
	done(t, x.Write(0, 5))
	goesOn(t, x, 2)
	return m, x
}

// P16.4: a cell that was read has another owner, or another version, when its turn to be looked at comes: ErrStale, and no cell is published.
func TestStepWhereStale(t *testing.T) {
	for n := 1; n <= 4; n++ {
		for at := 1; at <= n; at++ {
			for kind := range 3 {
				m, x := looker(t, n)
				switch kind {
				case 0:
					done(t, m.Lock(at, 5))
				case 1:
					changes(t, m, 5, at, 0) // the value is the same
				case 2:
					changes(t, m, 5, at, 9)
					done(t, m.Lock(at, 6))
				}
				goesOn(t, x, at-1)
				if x.Claimed() != 1 {
					t.Fatal(x.Claimed())
				}
				failsWith(t, m, 1, x, api.ErrStale, n, at, kind)
				has(t, m, 0, 0, 0, 0)
				if owner := []int{5, 0, 6}[kind]; owner > 0 {
					owns(t, m, owner, at)
				}
			}
		}
	}
}

// P16.4: a cell is looked at in its own step: what happens to it behind that, or ahead of it and is over, is no fault.
func TestStaleInItsStep(t *testing.T) {
	m, x := looker(t, 3)
	done(t, m.Lock(1, 5), m.Lock(2, 5), m.Unlock(1, 5))
	steps(t, x, tl2.Ending)
	changes(t, m, 6, 1, 9)
	done(t, m.Unlock(2, 5))
	steps(t, x, tl2.Ending)
	done(t, m.Lock(2, 5), m.Lock(1, 5))
	steps(t, x, tl2.Ending)
	changes(t, m, 6, 3, 9)
	steps(t, x, tl2.Done)
	has(t, m, 0, 5, 1, 0)
	if x.Version() != 1 || m.Clock() != 3 {
		t.Fatal(x.Version(), m.Clock())
	}
}

// P16.4: a version that was published at or below its beginning, other than the one it was read with, is another version, too.
func TestStaleByLowerVersion(t *testing.T) {
	m := advanced(t, made[int](t, 2), 5)
	x := begun(t, m, 1)
	reads(t, x, 1, 0)
	done(t, x.Write(0, 3), m.Lock(1, 5), m.Publish(1, 5, 0, 2))
	goesOn(t, x, 2)
	failsWith(t, m, 1, x, api.ErrStale)
}

// P16.4: a cell that it read and writes: its own lock is no fault; another version, published ahead of its lock, is.
func TestReadAndWrittenCell(t *testing.T) {
	m := filled(t, 10, 11)
	x, y, z := begun(t, m, 1), begun(t, m, 2), begun(t, m, 3)
	for _, each := range []*tl2.Tx[int]{x, y, z} {
		reads(t, each, 0, 10)
		done(t, each.Write(0, 20))
	}
	done(t, z.Write(1, 5))
	steps(t, x, tl2.Ending)
	failsWith(t, m, 2, y, api.ErrBusy)
	steps(t, x, tl2.Ending, tl2.Ending, tl2.Done)
	has(t, m, 0, 20, 1, 0)
	goesOn(t, z, 2)
	owns(t, m, 3, 0, 1)
	goesOn(t, z, 1)
	failsWith(t, m, 3, z, api.ErrStale)
	has(t, m, 0, 20, 1, 0)
	has(t, m, 1, 11, 0, 0)
	if m.Clock() != 2 {
		t.Fatal(m.Clock())
	}
}

// P16.4: two that read what the other one writes: one of them fails.
func TestCrossedReads(t *testing.T) {
	m := filled(t, 10, 11)
	x, y := begun(t, m, 1), begun(t, m, 2)
	reads(t, x, 0, 10)
	reads(t, y, 1, 11)
	done(t, x.Write(1, 5), y.Write(0, 6))
	goesOn(t, x, 2)
	goesOn(t, y, 2)
	failsWith(t, m, 1, x, api.ErrStale)
	owns(t, m, 2, 0)
	steps(t, y, tl2.Ending, tl2.Done)
	has(t, m, 0, 6, 2, 0)
	has(t, m, 1, 11, 0, 0)
}

// P16.4: the clock at its end: ErrClock behind the locks; at one less the last version is taken.
func TestStepWhereTheClockEnds(t *testing.T) {
	const end = int64(1) << 40
	m := filled(t, 10, 11, 12)
	setClock(m, end-1)
	x, y, z := begun(t, m, 1), begun(t, m, 2), begun(t, m, 3)
	done(t, x.Write(0, 1))
	goesOn(t, x, 2)
	if x.Claimed() != end {
		t.Fatal(x.Claimed())
	}
	steps(t, x, tl2.Done)
	has(t, m, 0, 1, end, 0)
	done(t, y.Write(1, 2), y.Write(2, 2))
	reads(t, y, 1, 2)
	goesOn(t, y, 2)
	owns(t, m, 2, 1, 2)
	before := m.Clock()
	failsWith(t, m, 2, y, api.ErrClock)
	if m.Clock() != before || before != end || x.Version() != end {
		t.Fatal(m.Clock(), before, x.Version())
	}
	has(t, m, 1, 11, 0, 0)
	has(t, m, 2, 12, 0, 0)
	reads(t, z, 1, 11)
	steps(t, z, tl2.Done) // without writes it takes no version
	if z.Version() != end-1 {
		t.Fatal(z.Version())
	}
}

// P16.4: where a lock, the clock and a look would all err, the first step counts; then the clock.
func TestStepErrorsInOrder(t *testing.T) {
	m := filled(t, 10, 11)
	setClock(m, 1<<40)
	x, y := begun(t, m, 1), begun(t, m, 2)
	for _, each := range []*tl2.Tx[int]{x, y} {
		reads(t, each, 1, 11)
		done(t, each.Write(0, 1))
	}
	done(t, m.Lock(0, 5), m.Lock(1, 5))
	failsWith(t, m, 1, x, api.ErrBusy)
	done(t, m.Unlock(0, 5))
	goesOn(t, y, 1)
	failsWith(t, m, 2, y, api.ErrClock)
	owns(t, m, 5, 1)
}

// P16.4: a version that was taken by one that failed is nobody's: the next one has the next.
func TestFailedVersionIsGone(t *testing.T) {
	m, x := looker(t, 1)
	done(t, m.Lock(1, 5))
	failsWith(t, m, 1, x, api.ErrStale)
	done(t, m.Unlock(1, 5))
	y := begun(t, m, 1)
	done(t, y.Write(0, 9))
	goesOn(t, y, 2)
	steps(t, y, tl2.Done)
	if y.Version() != 2 {
		t.Fatal(y.Version())
	}
	has(t, m, 0, 9, 2, 0)
}

// P16.4: versions are told in the order in which the clock's steps were done, not in that of the last steps.
func TestVersionsByTheClock(t *testing.T) {
	m := made[int](t, 3)
	var l []*tl2.Tx[int]
	for i := range 3 {
		x := begun(t, m, 10-i)
		done(t, x.Write(i, 5))
		goesOn(t, x, 1)
		l = append(l, x)
	}
	for _, k := range []int{2, 0, 1} {
		goesOn(t, l[k], 1)
	}
	for k, x := range l {
		steps(t, x, tl2.Done)
		if want := []int64{2, 3, 1}[k]; x.Version() != want {
			t.Fatal(k, x.Version())
		}
		has(t, m, k, 5, x.Version(), 0)
	}
}

// R1: a lock that somebody takes away in the midst of an end: the step that needs it errs, and nothing panics.
func TestStepWithoutItsLock(t *testing.T) {
	for at := range 3 {
		m := made[int](t, 3)
		x := begun(t, m, 1)
		done(t, x.Write(0, 1), x.Write(1, 2), x.Write(2, 3))
		goesOn(t, x, 4)
		done(t, m.Unlock(at, 1))
		goesOn(t, x, at)
		failsWith(t, m, 1, x, api.ErrBusy, at)
	}
}
