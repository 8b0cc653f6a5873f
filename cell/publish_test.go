package cell_test

import (
	"math"
	"testing"

	"ledgerstone/api"
	"ledgerstone/cell"
)

// atClock is a memory of n cells whose clock is that.
func atClock[T any](t *testing.T, n int, clock int64) *cell.Memory[T] {
	t.Helper()
	m := made[T](t, n)
	cell.SetClock(m, clock)
	return m
}

// versions are numbers at the edges, of a cell's version and of the clock.
func versions(version, clock int64) []int64 {
	return []int64{
		math.MinInt64, math.MinInt64 + 1, -1 << 32, -1<<32 + clock, -1 << 40, -2, -1, 0, 1,
		version - 1, version, version + 1, clock - 1, clock, clock + 1,
		clock + 1<<32, 1<<40 - 1, 1 << 40, 1<<40 + 1, math.MaxInt64 - 1, math.MaxInt64,
	}
}

// P14.4: Publish by the owner, with each version at the edges: it is taken just if it is above the cell's and at most the clock.
func TestPublish(t *testing.T) {
	for _, clock := range []int64{0, 1, 2, 3, 7, 255, 256, 1<<31 - 1, 1 << 31, 1 << 32, 1<<40 - 1, 1 << 40} {
		for _, old := range []int64{0, 1, 2, clock / 2, clock - 1, clock} {
			if old < 0 || old > clock {
				continue
			}
			for _, version := range versions(old, clock) {
				m := atClock[string](t, 3, clock)
				done(t, m.Fill(0, "l"), m.Fill(1, "a"), m.Lock(1, 4))
				if old > 0 {
					done(t, m.Publish(1, 4, "b", old), m.Lock(1, 4))
				}
				publish := func() api.Errno { return m.Publish(1, 4, "c", version) }
				if version <= old || version > clock {
					refuses(t, m, api.ErrStale, publish, clock, old, version)
					owns(t, m, 4, 1)
					continue
				}
				tells(t, publish(), api.OK, clock, old, version)
				has(t, m, 1, "c", version, 0, clock, old)
				has(t, m, 0, "l", 0, 0)
				has(t, m, 2, "", 0, 0)
				owns(t, m, 4)
				if m.Clock() != clock {
					t.Fatal(m.Clock(), clock)
				}
				refuses(t, m, api.ErrBusy, publish, clock, old, version) // it has no owner any more
			}
		}
	}
}

// P14.4: Publish by who is not the owner, of a cell that is free, and of one that another one has, whatever the version.
func TestPublishByOthers(t *testing.T) {
	for _, holder := range append(owners(), 0) {
		m := made[int](t, 2)
		for clock := int64(1); clock <= 4; clock++ {
			advances(t, m, clock)
		}
		done(t, m.Fill(1, 5), m.Lock(1, 9), m.Publish(1, 9, 6, 2))
		if holder > 0 {
			done(t, m.Lock(1, holder))
		}
		for _, owner := range owners() {
			if owner == holder {
				continue
			}
			for _, version := range []int64{math.MinInt64, -1, 0, 1, 2, 3, 4, 5, math.MaxInt64} {
				tells(t, m.Publish(1, owner, 7, version), api.ErrBusy, holder, owner, version)
				has(t, m, 1, 6, 2, holder)
			}
		}
	}
}

// P14.4: Publish of cells that there are not, and by owners that may not be: that is told ahead of all else.
func TestPublishRefused(t *testing.T) {
	for _, n := range []int{1, 2, 1024} {
		m := made[int](t, n)
		advances(t, m, 1)
		for _, holder := range []int{0, 3} {
			if holder > 0 {
				done(t, m.Lock(0, holder))
			}
			before := whole(m)
			for _, version := range versions(0, 1) {
				for _, i := range noCells(n) {
					for _, owner := range append(noOwners(), 1, 3) {
						tells(t, m.Publish(i, owner, 8, version), api.ErrArg, n, i, owner, version)
					}
				}
				for _, i := range []int{0, n - 1} {
					for _, owner := range noOwners() { // 0 too, though a free cell's owner is 0
						tells(t, m.Publish(i, owner, 8, version), api.ErrArg, n, i, owner, version)
					}
				}
			}
			if after := whole(m); after != before {
				t.Fatal("not as it was:", before, after)
			}
		}
	}
}

// P14.4: the first cell and the last one, again and again with rising versions, by unlike owners; the others stay.
func TestPublishAgain(t *testing.T) {
	for _, n := range []int{1, 2, 1024} {
		m := made[int](t, n)
		for clock := int64(1); clock <= 50; clock++ {
			advances(t, m, clock)
			for _, i := range []int{0, n - 1} {
				if _, version, _, _ := m.Load(i); version == clock {
					continue
				}
				owner := int(clock)*10 + i
				done(t, m.Lock(i, owner), m.Publish(i, owner, int(clock)*3, clock))
				has(t, m, i, int(clock)*3, clock, 0)
			}
		}
		for i := 1; i < n-1; i++ {
			has(t, m, i, 0, 0, 0)
		}
	}
}

// P14.4: cells that are locked at once are published with one version, and a cell with a version that is behind the clock.
func TestPublishMany(t *testing.T) {
	m := made[string](t, 3)
	done(t, m.Lock(0, 1), m.Lock(1, 1), m.Lock(2, 2))
	advances(t, m, 1)
	advances(t, m, 2)
	done(t, m.Publish(2, 2, "late", 2))
	done(t, m.Publish(0, 1, "a", 1))
	has(t, m, 1, "", 0, 1)
	owns(t, m, 1, 1)
	done(t, m.Publish(1, 1, "b", 1))
	has(t, m, 0, "a", 1, 0)
	has(t, m, 1, "b", 1, 0)
	has(t, m, 2, "late", 2, 0)
	done(t, m.Lock(0, 5), m.Publish(0, 5, "", 2)) // nothing may be published, too
	has(t, m, 0, "", 2, 0)
}
