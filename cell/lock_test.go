package cell_test

import (
	"testing"

	"ledgerstone/api"
)

// P14.3: Lock of a cell that is free, that the same owner has, that another one has; Unlock of each.
func TestLockAndUnlock(t *testing.T) {
	for _, n := range []int{1, 2, 4} {
		for i := range n {
			for _, one := range owners() {
				m := made[string](t, n)
				done(t, m.Fill(i, "a"), m.Lock(i, one))
				has(t, m, i, "a", 0, one)
				owns(t, m, one, i)
				done(t, m.Lock(i, one), m.Lock(i, one))
				has(t, m, i, "a", 0, one)
				for _, other := range owners() {
					if other == one {
						continue
					}
					refuses(t, m, api.ErrBusy, func() api.Errno { return m.Lock(i, other) }, i, one, other)
					refuses(t, m, api.ErrBusy, func() api.Errno { return m.Unlock(i, other) }, i, one, other)
					owns(t, m, other)
				}
				done(t, m.Unlock(i, one)) // once, however often it was locked
				has(t, m, i, "a", 0, 0)
				owns(t, m, one)
				for _, each := range owners() {
					refuses(t, m, api.ErrBusy, func() api.Errno { return m.Unlock(i, each) }, i, one, each)
				}
				done(t, m.Lock(i, 12345))
				owns(t, m, 12345, i)
			}
		}
	}
}

// P14.3: a lock is one cell's alone, and leaves values and versions as they are.
func TestLocksAreApart(t *testing.T) {
	m := made[int](t, 4)
	for i := range 4 {
		done(t, m.Fill(i, 10+i))
	}
	advances(t, m, 1)
	advances(t, m, 2)
	done(t, m.Lock(2, 1), m.Publish(2, 1, 99, 2))
	done(t, m.Lock(0, 1), m.Lock(1, 2), m.Lock(2, 1))
	has(t, m, 0, 10, 0, 1)
	has(t, m, 1, 11, 0, 2)
	has(t, m, 2, 99, 2, 1)
	has(t, m, 3, 13, 0, 0)
	owns(t, m, 1, 0, 2)
	owns(t, m, 2, 1)
	done(t, m.Unlock(0, 1))
	has(t, m, 0, 10, 0, 0)
	has(t, m, 2, 99, 2, 1)
	owns(t, m, 1, 2)
	done(t, m.Unlock(2, 1), m.Lock(2, 2))
	has(t, m, 2, 99, 2, 2)
	owns(t, m, 1)
	owns(t, m, 2, 1, 2)
}

// P14.3: Lock and Unlock of cells that there are not, and of owners that may not be, whoever has the cell.
func TestLockAndUnlockRefused(t *testing.T) {
	for _, n := range []int{1, 3, 1024} {
		m := made[int](t, n)
		for _, holder := range []int{0, 1, 7} {
			if holder > 0 {
				done(t, m.Lock(0, holder), m.Lock(n-1, holder))
			}
			before := whole(m)
			for _, i := range noCells(n) {
				for _, owner := range append(noOwners(), 1, 7, 8) {
					tells(t, m.Lock(i, owner), api.ErrArg, n, i, owner)
					tells(t, m.Unlock(i, owner), api.ErrArg, n, i, owner)
				}
			}
			for _, i := range []int{0, n - 1} {
				for _, owner := range noOwners() {
					tells(t, m.Lock(i, owner), api.ErrArg, n, i, owner)
					tells(t, m.Unlock(i, owner), api.ErrArg, n, i, owner)
				}
			}
			if after := whole(m); after != before {
				t.Fatal("not as it was:", before, after)
			}
			m.Unlock(0, holder)
			m.Unlock(n-1, holder)
		}
	}
}

// P14.3: Owned of an owner with none, some, all cells, of another one beside it, and of numbers that no owner has.
func TestOwned(t *testing.T) {
	for _, n := range []int{1, 2, 3, 5, 8} {
		for set := range 1 << n {
			m := made[string](t, n)
			var mine, theirs []int
			for at := range n { // taken from the last on: it is told rising
				if i := n - 1 - at; set>>i&1 == 1 {
					done(t, m.Lock(i, 3))
				} else {
					done(t, m.Lock(i, 1<<32+3))
				}
			}
			for i := range n {
				if set>>i&1 == 1 {
					mine = append(mine, i)
				} else {
					theirs = append(theirs, i)
				}
			}
			owns(t, m, 3, mine...)
			owns(t, m, 1<<32+3, theirs...)
			for _, owner := range append(noOwners(), 1, 2, 4, 1<<32, -3) {
				owns(t, m, owner)
			}
			for _, i := range theirs {
				done(t, m.Unlock(i, 1<<32+3))
			}
			owns(t, m, 3, mine...)
			owns(t, m, 1<<32+3)
			for _, owner := range noOwners() { // cells that are free have no owner: 0 is none
				owns(t, m, owner)
			}
		}
	}
}

// P14.3: as many cells as there may be, of one owner and of as many.
func TestOwnedOfMany(t *testing.T) {
	m := made[int](t, 1024)
	var all []int
	for i := range 1024 {
		all = append(all, i)
		done(t, m.Lock(1023-i, 7))
	}
	owns(t, m, 7, all...)
	for i := range 1024 {
		done(t, m.Unlock(i, 7), m.Lock(i, 10+i))
	}
	owns(t, m, 7)
	for i := range 1024 {
		owns(t, m, 10+i, i)
	}
}
