package cell_test

import (
	"fmt"
	"math"
	"slices"
	"testing"

	"ledgerstone/api"
	"ledgerstone/cell"
)

// made is a memory of n cells.
func made[T any](t *testing.T, n int) *cell.Memory[T] {
	t.Helper()
	m, err := cell.New[T](n)
	if m == nil || err != api.OK {
		t.Fatal("New", n, m == nil, err)
	}
	return m
}

// tells is an error that is to be want.
func tells(t *testing.T, got, want api.Errno, what ...any) {
	t.Helper()
	if got != want {
		t.Fatal("told", got, "wanted", want, what)
	}
}

// done is calls that are to tell OK.
func done(t *testing.T, l ...api.Errno) {
	t.Helper()
	for i, err := range l {
		tells(t, err, api.OK, "call", i)
	}
}

// advances is an Advance that is to tell want.
func advances[T any](t *testing.T, m face[T], want int64) {
	t.Helper()
	if got, err := m.Advance(); got != want || err != api.OK || m.Clock() != want {
		t.Fatal("Advance", got, err, m.Clock(), "wanted", want)
	}
}

// has is a Load that is to tell these.
func has[T comparable](t *testing.T, m face[T], i int, v T, version int64, owner int, what ...any) {
	t.Helper()
	if gotV, gotVersion, gotOwner, err := m.Load(i); gotV != v || gotVersion != version || gotOwner != owner || err != api.OK {
		t.Fatal("Load", i, gotV, gotVersion, gotOwner, err, "wanted", v, version, owner, what)
	}
}

// owns is an Owned that is to tell these.
func owns[T any](t *testing.T, m face[T], owner int, want ...int) {
	t.Helper()
	if got := m.Owned(owner); !slices.Equal(got, want) {
		t.Fatal("Owned", owner, got, "wanted", want)
	}
}

// whole is all that m tells, but of owners above 9.
func whole[T any](m face[T]) string {
	out := fmt.Sprintln(m.Size(), m.Clock())
	for i := -1; i <= m.Size(); i++ {
		out += fmt.Sprintln(m.Load(i))
	}
	for owner := -1; owner <= 9; owner++ {
		out += fmt.Sprintln(m.Owned(owner))
	}
	return out
}

// refuses is a call that is to tell that error, and to leave all as it was.
func refuses[T any](t *testing.T, m face[T], want api.Errno, call func() api.Errno, what ...any) {
	t.Helper()
	before := whole(m)
	for range 2 {
		tells(t, call(), want, what...)
		if after := whole(m); after != before {
			t.Fatal("not as it was:", before, after, what)
		}
	}
}

// noCells are numbers of which a memory of n cells has none.
func noCells(n int) []int {
	return []int{math.MinInt, math.MinInt + 1, -1 << 32, -1<<32 + 1, -n - 1, -n, -2, -1, n, n + 1, 2 * n, 1 << 31, 1 << 32, 1<<32 + n - 1, math.MaxInt - 1, math.MaxInt}
}

// noOwners are numbers that no owner has.
func noOwners() []int {
	return []int{math.MinInt, math.MinInt + 1, -1 << 32, -1<<32 + 1, -7, -2, -1, 0}
}

// owners are some that may be; many of them are the same in their lower bits.
func owners() []int {
	return []int{1, 2, 64, 255, 256, 257, 1 << 31, math.MaxUint32, 1 << 32, 1<<32 + 1, 1<<32 + 2, 1 << 62, math.MaxInt - 1, math.MaxInt}
}

// The chapter's examples, with all that may be told beside them.
func TestExamples(t *testing.T) {
	m := made[string](t, 2)
	done(t, m.Fill(0, "a"), m.Lock(0, 7))
	refuses(t, m, api.ErrBusy, func() api.Errno { return m.Lock(0, 8) })
	refuses(t, m, api.ErrStale, func() api.Errno { return m.Publish(0, 7, "b", 1) })
	has(t, m, 0, "a", 0, 7)
	owns(t, m, 7, 0)
	advances(t, m, 1)
	done(t, m.Publish(0, 7, "b", 1))
	has(t, m, 0, "b", 1, 0)
	owns(t, m, 7)
	refuses(t, m, api.ErrStale, func() api.Errno { return m.Fill(0, "c") })
	refuses(t, m, api.ErrArg, func() api.Errno { _, _, _, err := m.Load(2); return err })
	has(t, m, 0, "b", 1, 0)
	has(t, m, 1, "", 0, 0)
}

// P14.1: New of each number of cells that may be, and that may not.
func TestNew(t *testing.T) {
	for n := 1; n <= 1024; n++ {
		m := made[int](t, n)
		if m.Size() != n || m.Clock() != 0 {
			t.Fatal(n, m.Size(), m.Clock())
		}
		has(t, m, 0, 0, 0, 0, n)
		has(t, m, n-1, 0, 0, 0, n)
	}
	for _, n := range []int{math.MinInt, math.MinInt + 1, -1 << 32, -1<<32 + 1, -1024, -2, -1, 0, 1025, 1026, 2048, 1 << 31, 1 << 32, 1<<32 + 1, math.MaxInt - 1, math.MaxInt} {
		if m, err := cell.New[int](n); m != nil || err != api.ErrArg {
			t.Fatal(n, m != nil, err)
		}
		if m, err := cell.New[func()](n); m != nil || err != api.ErrArg {
			t.Fatal(n, m != nil, err)
		}
	}
}

// P14.1: at first all cells hold nothing, have version 0 and no owner, and the clock is 0; each memory is new.
func TestNewIsEmpty(t *testing.T) {
	for _, n := range []int{1, 2, 3, 1023, 1024} {
		m, other := made[string](t, n), made[string](t, n)
		for i := range n {
			has(t, m, i, "", 0, 0, n)
		}
		for _, owner := range append(noOwners(), owners()...) {
			owns(t, m, owner)
		}
		for i := range n {
			done(t, m.Fill(i, "x"), m.Lock(i, 1+i))
		}
		advances(t, m, 1)
		done(t, m.Publish(n-1, n, "y", 1))
		for i := range n {
			has(t, other, i, "", 0, 0, n)
		}
		if other.Clock() != 0 {
			t.Fatal(n, other.Clock())
		}
		advances(t, other, 1)
	}
}

// P14.1: Size and Clock behind each call, of those that tell OK and of those that do not.
func TestSizeAndClock(t *testing.T) {
	for _, n := range []int{1, 2, 1024} {
		m := made[int](t, n)
		stays := func(clock int64, what string) {
			t.Helper()
			if m.Size() != n || m.Clock() != clock || m.Size() != n || m.Clock() != clock {
				t.Fatal(what, m.Size(), m.Clock(), "wanted", n, clock)
			}
		}
		stays(0, "New")
		for clock := int64(0); clock < 3; clock++ {
			for _, i := range []int{0, n - 1, -1, n} {
				m.Load(i)
				stays(clock, "Load")
				m.Fill(i, 5)
				stays(clock, "Fill")
				m.Lock(i, 1)
				stays(clock, "Lock")
				m.Lock(i, 2)
				stays(clock, "Lock")
				m.Unlock(i, 2)
				stays(clock, "Unlock")
				m.Owned(1)
				stays(clock, "Owned")
				m.Publish(i, 1, 6, clock)
				stays(clock, "Publish")
				m.Publish(i, 1, 6, clock+1)
				stays(clock, "Publish")
				m.Unlock(i, 1)
				stays(clock, "Unlock")
			}
			advances(t, m, clock+1)
			stays(clock+1, "Advance")
		}
	}
}

// P14.1: each Advance is one more, and leaves the cells as they are.
func TestAdvance(t *testing.T) {
	m := made[string](t, 3)
	done(t, m.Fill(0, "a"), m.Fill(1, "b"), m.Lock(1, 4))
	for clock := int64(1); clock <= 70000; clock++ {
		advances(t, m, clock)
	}
	has(t, m, 0, "a", 0, 0)
	has(t, m, 1, "b", 0, 4)
	has(t, m, 2, "", 0, 0)
	owns(t, m, 4, 1)
}

// P14.1: the clock goes up to 2^40, and no further; what was locked till then is published still.
func TestClockAtItsEnd(t *testing.T) {
	const end = int64(1) << 40
	m := made[string](t, 2)
	done(t, m.Fill(0, "a"), m.Lock(0, 3), m.Lock(1, 3))
	cell.SetClock(m, end-3)
	for clock := end - 2; clock <= end; clock++ {
		advances(t, m, clock)
	}
	stopped := func() {
		t.Helper()
		refuses(t, m, api.ErrClock, func() api.Errno {
			clock, err := m.Advance()
			if clock != 0 {
				t.Fatal("beside the error", clock)
			}
			return err
		})
	}
	stopped()
	for _, version := range []int64{end + 1, end + 2, end << 1, math.MaxInt64} {
		refuses(t, m, api.ErrStale, func() api.Errno { return m.Publish(0, 3, "b", version) }, version)
	}
	done(t, m.Publish(0, 3, "b", end-1), m.Publish(1, 3, "c", end))
	has(t, m, 0, "b", end-1, 0)
	has(t, m, 1, "c", end, 0)
	done(t, m.Lock(0, 9), m.Lock(1, 9))
	refuses(t, m, api.ErrStale, func() api.Errno { return m.Publish(1, 9, "d", end) })
	refuses(t, m, api.ErrStale, func() api.Errno { return m.Publish(1, 9, "d", end+1) })
	done(t, m.Publish(0, 9, "d", end), m.Unlock(1, 9))
	has(t, m, 0, "d", end, 0)
	has(t, m, 1, "c", end, 0)
	stopped()
}
