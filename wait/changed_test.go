package wait_test

import (
	"reflect"
	"testing"
	"unsafe"

	"ledgerstone/api"
	"ledgerstone/cell"
	"ledgerstone/tl2"
)

// setClock has the clock of m be that: no test can wait for 2^32 calls of Advance, and cell has no call for it.
func setClock[T any](m *cell.Memory[T], clock int64) {
	field := reflect.ValueOf(m).Elem().FieldByName("clock")
	*(*int64)(unsafe.Pointer(field.UnsafeAddr())) = clock
}

// P18.2: of no waiters nothing is told, whatever is published.
func TestChangedOfNone(t *testing.T) {
	m := empty[int](t, 2)
	w := watch(t, m)
	changed(t, w)
	parked(t, w)
	publishes(t, m, 0, 1, 0)
	changed(t, w)
	parked(t, w)
}

// P18.2: one waiter is told once, then it is none; the others stay.
func TestToldOnce(t *testing.T) {
	m := empty[int](t, 3)
	w := watch(t, m)
	parks(t, w, 5, begun(t, m, 0))
	parks(t, w, 6, begun(t, m, 1))
	changed(t, w)
	parked(t, w, 5, 6)
	publishes(t, m, 0)
	parked(t, w, 5, 6)
	changed(t, w, 5)
	parked(t, w, 6)
	changed(t, w)
	publishes(t, m, 0)
	changed(t, w)
	forgets(t, w, 5, false)
	publishes(t, m, 1, 1)
	changed(t, w, 6)
	parked(t, w)
}

// P18.2: several that can go on are told by rising ids, in whatever order they were parked and their cells published; each subset of six cells.
func TestSeveralAreTold(t *testing.T) {
	order := []int{4, 1, 6, 3, 5, 2}
	for set := range 1 << 6 {
		m := empty[int](t, 6)
		w := watch(t, m)
		for _, id := range order {
			parks(t, w, id*1000, begun(t, m, id-1))
		}
		var want, left []int
		for id := 1; id <= 6; id++ {
			if set>>(id-1)&1 == 1 {
				want = append(want, id*1000)
			} else {
				left = append(left, id*1000)
			}
		}
		for i := 5; i >= 0; i-- {
			if set>>i&1 == 1 {
				publishes(t, m, i)
			}
		}
		changed(t, w, want...)
		parked(t, w, left...)
		changed(t, w)
		parked(t, w, left...)
	}
}

// P18.2: one cell that several have read, with more of their own.
func TestOneCellOfSeveral(t *testing.T) {
	m := empty[int](t, 4)
	w := watch(t, m)
	parks(t, w, 9, begun(t, m, 0, 3))
	parks(t, w, 3, begun(t, m, 3, 1))
	parks(t, w, 5, begun(t, m, 0, 1))
	parks(t, w, 4, begun(t, m, 3))
	publishes(t, m, 3)
	changed(t, w, 3, 4, 9)
	parked(t, w, 5)
	publishes(t, m, 1)
	changed(t, w, 5)
}

// P18.2: a waiter with several cells is told once, though all of them change, at once or in a row.
func TestSeveralCellsOfOne(t *testing.T) {
	m := empty[int](t, 3)
	w := watch(t, m)
	parks(t, w, 1, begun(t, m, 0, 1, 2))
	publishes(t, m, 0, 1, 2)
	changed(t, w, 1)
	changed(t, w)
	parks(t, w, 1, begun(t, m, 0, 1, 2))
	for i := range 3 {
		publishes(t, m, i)
		if i == 0 {
			changed(t, w, 1)
		}
		changed(t, w)
	}
}

// P18.2: 64 waiters, each with a cell of its own, of which any can go on.
func TestManyWaiters(t *testing.T) {
	for _, modulo := range []int{1, 2, 3, 7, 64} {
		m := empty[int](t, 1024)
		w := watch(t, m)
		for id := 64; id > 0; id-- {
			parks(t, w, id, begun(t, m, 16*id-1))
		}
		var want, left []int
		for id := 1; id <= 64; id++ {
			if id%modulo == 0 {
				publishes(t, m, 16*id-1)
				want = append(want, id)
			} else {
				publishes(t, m, 16*id-2)
				left = append(left, id)
			}
		}
		changed(t, w, want...)
		parked(t, w, left...)
	}
}

// P18.2: as many cells as a transaction can read: each of them counts, and no other.
func TestManyCells(t *testing.T) {
	m := empty[int](t, 1024)
	w := watch(t, m)
	all := upTo(3, 1023, 4)
	if len(all) != 256 {
		t.Fatal("the test itself", len(all))
	}
	for i := range 1024 {
		x := begun(t, m, all...)
		if _, err := x.Read(0); err != api.ErrLong {
			t.Fatal("the test itself", err)
		}
		parks(t, w, 1, x)
		publishes(t, m, i)
		if i%4 == 3 {
			changed(t, w, 1)
			continue
		}
		changed(t, w)
		forgets(t, w, 1, true)
	}
}

// P18.2, P18.4: what is published ahead of the Read is what it was read with, and not told; what is published between Read and Park is told, and so is what is behind Park.
func TestWhenItIsPublished(t *testing.T) {
	for ahead := range 3 {
		for between := range 3 {
			for behind := range 3 {
				m := empty[int](t, 2)
				w := watch(t, m)
				for range ahead {
					publishes(t, m, 1, 0)
				}
				x := begun(t, m, 0)
				for range between {
					publishes(t, m, 0, 1)
				}
				parks(t, w, 1, x)
				if between > 0 && behind != 1 {
					changed(t, w, 1)
					parked(t, w)
				}
				for range behind {
					publishes(t, m, 0, 1)
				}
				switch {
				case between > 0 && behind != 1:
					changed(t, w)
				case between+behind > 0:
					changed(t, w, 1)
					changed(t, w)
				default:
					changed(t, w)
					parked(t, w, 1)
				}
			}
		}
	}
}

// P18.2: the version counts, not the value: what is published is told, though it is the same value; a Fill is not.
func TestVersionsCount(t *testing.T) {
	m := filled(t, 5, 6)
	w := watch(t, m)
	parks(t, w, 1, begun(t, m, 0))
	parks(t, w, 2, begun(t, m, 1))
	done(t, m.Fill(0, 7), m.Fill(1, 0))
	changed(t, w)
	version, err := m.Advance()
	changed(t, w)
	done(t, err, m.Lock(0, outsider), m.Publish(0, outsider, 7, version))
	changed(t, w, 1)
	parked(t, w, 2)
}

// P18.2: a cell that is locked alone, and unlocked again, has the version that it had; so has one whose writer failed.
func TestLockedAlone(t *testing.T) {
	m := empty[int](t, 2)
	publishes(t, m, 1)
	w := watch(t, m)
	parks(t, w, 1, begun(t, m, 0))
	parks(t, w, 2, begun(t, m, 1))
	for i := range 2 {
		done(t, m.Lock(i, outsider))
		changed(t, w)
		done(t, m.Unlock(i, outsider))
		changed(t, w)
	}
	x := begun(t, m)
	done(t, x.Write(0, 1), x.Write(1, 1))
	for range 3 { // two locks and the clock
		x.Step()
		changed(t, w)
	}
	done(t, x.Abort())
	changed(t, w)
	parked(t, w, 1, 2)
	done(t, m.Lock(0, outsider))
	publishes(t, m, 1)
	changed(t, w, 2)
	done(t, m.Unlock(0, outsider))
	changed(t, w)
}

// P18.2: while its cells are locked a transaction can be parked; a cell that is locked already when it was published is told.
func TestParkWhileLocked(t *testing.T) {
	m := empty[int](t, 2)
	w := watch(t, m)
	x := begun(t, m, 0, 1)
	done(t, m.Lock(0, outsider))
	parks(t, w, 1, x)
	changed(t, w)
	publishes(t, m, 1)
	done(t, m.Lock(1, outsider))
	changed(t, w, 1)
}

// P18.2: versions are told from one another wholly, up to the clock's end.
func TestFarVersions(t *testing.T) {
	for power := range 41 {
		m := empty[int](t, 2)
		w := watch(t, m)
		publishes(t, m, 1)
		parks(t, w, 1, begun(t, m, 0)) // version 0
		parks(t, w, 2, begun(t, m, 1)) // version 1
		changed(t, w)
		setClock(m, 1<<power-1)
		changed(t, w)
		publishes(t, m, 0)
		changed(t, w, 1)
		if power == 0 || power == 40 { // cell 1 has that version already, or the clock is at its end
			continue
		}
		publishes(t, m, 1)
		if versionOf(t, m, 0) != 1<<power || versionOf(t, m, 1) != 1<<power+1 {
			t.Fatal("the test itself", versionOf(t, m, 0), versionOf(t, m, 1))
		}
		changed(t, w, 2)
		parks(t, w, 1, begun(t, m, 0, 1))
		changed(t, w)
	}
}

// P18.4: a waiter without cells is never told, whatever happens, and stays till it is forgotten.
func TestWithoutCells(t *testing.T) {
	m := empty[int](t, 3)
	w := watch(t, m)
	x := begun(t, m)
	done(t, x.Write(0, 5))
	parks(t, w, 1, begun(t, m))
	parks(t, w, 2, x)
	for range 50 {
		publishes(t, m, 0, 1, 2)
		changed(t, w)
	}
	steps(t, x, 3, tl2.Done)
	changed(t, w)
	x = begun(t, m)
	done(t, x.Abort())
	parks(t, w, 3, x)
	publishes(t, m, 0, 1, 2)
	changed(t, w)
	parked(t, w, 1, 2, 3)
	forgets(t, w, 2, true)
	parked(t, w, 1, 3)
}

// P18.1, P18.2: two watches of one memory, and of two, have waiters of their own.
func TestTwoWatches(t *testing.T) {
	m, n := empty[int](t, 2), empty[int](t, 2)
	v, w, u := watch(t, m), watch(t, m), watch(t, n)
	parks(t, v, 1, begun(t, m, 0))
	parks(t, w, 1, begun(t, m, 1))
	parks(t, u, 1, begun(t, n, 0))
	parks(t, w, 2, begun(t, m, 0))
	publishes(t, m, 0)
	changed(t, u)
	changed(t, w, 2)
	changed(t, v, 1)
	parked(t, v)
	parked(t, w, 1)
	parked(t, u, 1)
	forgets(t, v, 1, false)
	forgets(t, w, 1, true)
	publishes(t, n, 0)
	changed(t, v)
	changed(t, w)
	changed(t, u, 1)
}

// versionOf is the version that cell i has now.
func versionOf[T any](t *testing.T, m *cell.Memory[T], i int) int64 {
	t.Helper()
	_, version, _, err := m.Load(i)
	done(t, err)
	return version
}
