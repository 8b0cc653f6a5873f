package cell_test

import (
	"testing"

	"ledgerstone/api"
)

// P14.2: Load of each cell, and of those that there are not: every other result is zero then.
func TestLoad(t *testing.T) {
	for _, n := range []int{1, 2, 7, 1024} {
		m := made[int](t, n)
		advances(t, m, 1)
		advances(t, m, 2)
		for i := range n {
			switch i % 3 {
			case 0:
				done(t, m.Fill(i, i+1))
			case 1:
				done(t, m.Lock(i, i), m.Publish(i, i, -i, 2), m.Lock(i, i+5))
			case 2:
				done(t, m.Fill(i, i+1), m.Lock(i, 1<<40+i))
			}
		}
		for range 2 {
			for i := range n {
				switch i % 3 {
				case 0:
					has(t, m, i, i+1, 0, 0)
				case 1:
					has(t, m, i, -i, 2, i+5)
				case 2:
					has(t, m, i, i+1, 0, 1<<40+i)
				}
			}
			for _, i := range noCells(n) {
				if v, version, owner, err := m.Load(i); v != 0 || version != 0 || owner != 0 || err != api.ErrArg {
					t.Fatal(n, i, v, version, owner, err)
				}
			}
		}
	}
}

// P14.2: Fill of a cell that has neither an owner nor a version, once and again, at each place; the others stay.
func TestFill(t *testing.T) {
	for _, n := range []int{1, 2, 5, 1024} {
		m := made[int](t, n)
		want := make([]int, n)
		for _, i := range []int{0, n - 1, n / 2, 0, 0, n - 1} {
			for _, v := range []int{i + 3, i + 4, i + 4, 0, -1, i + 9} {
				done(t, m.Fill(i, v))
				want[i] = v
				for j := range min(n, 5) {
					has(t, m, j, want[j], 0, 0, n, i)
				}
				has(t, m, i, v, 0, 0, n)
			}
		}
		for i := range n {
			has(t, m, i, want[i], 0, 0, n)
		}
		advances(t, m, 1)
		done(t, m.Fill(0, 77)) // whatever the clock is, its version is 0
		has(t, m, 0, 77, 0, 0, n)
	}
}

// P14.2: Fill of a cell that has an owner, that has a version, that has both; and again as soon as it may be.
func TestFillRefused(t *testing.T) {
	m := made[string](t, 4)
	fill := func() api.Errno { return m.Fill(1, "x") }
	done(t, m.Fill(1, "a"), m.Lock(1, 5))
	refuses(t, m, api.ErrBusy, fill)
	has(t, m, 1, "a", 0, 5)
	done(t, m.Unlock(1, 5), m.Fill(1, "b"), m.Lock(1, 6))
	refuses(t, m, api.ErrBusy, fill)
	advances(t, m, 1)
	refuses(t, m, api.ErrBusy, fill)
	done(t, m.Publish(1, 6, "c", 1))
	refuses(t, m, api.ErrStale, fill)
	has(t, m, 1, "c", 1, 0)
	done(t, m.Lock(1, 6))
	refuses(t, m, api.ErrBusy, fill) // ahead of ErrStale
	has(t, m, 1, "c", 1, 6)
	done(t, m.Unlock(1, 6))
	refuses(t, m, api.ErrStale, fill)
	advances(t, m, 2)
	refuses(t, m, api.ErrStale, fill)
	has(t, m, 1, "c", 1, 0)
	done(t, m.Fill(0, "d"), m.Fill(2, "e"))
	for _, i := range noCells(4) {
		refuses(t, m, api.ErrArg, func() api.Errno { return m.Fill(i, "x") }, i)
	}
}

// P14.2: owners and versions of any size refuse a Fill.
func TestFillRefusedByAny(t *testing.T) {
	m := made[int](t, 2)
	for _, owner := range owners() {
		done(t, m.Lock(0, owner))
		refuses(t, m, api.ErrBusy, func() api.Errno { return m.Fill(0, 1) }, owner)
		done(t, m.Unlock(0, owner), m.Fill(0, owner))
		has(t, m, 0, owner, 0, 0)
	}
	for _, version := range []int64{1, 255, 256, 1 << 31, 1 << 32, 1<<32 + 1, 1 << 40} {
		m := atClock[int](t, 2, version)
		done(t, m.Lock(0, 1), m.Publish(0, 1, 5, version))
		refuses(t, m, api.ErrStale, func() api.Errno { return m.Fill(0, 1) }, version)
		done(t, m.Lock(0, 1))
		refuses(t, m, api.ErrBusy, func() api.Errno { return m.Fill(0, 1) }, version)
		done(t, m.Fill(1, 1))
	}
}
