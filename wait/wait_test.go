package wait_test

import (
	"math"
	"slices"
	"testing"

	"ledgerstone/api"
	"ledgerstone/cell"
	"ledgerstone/tl2"
	"ledgerstone/wait"
)

// outsider is the owner of what is locked and published beside all transactions.
const outsider = 99

// tells is an error that is to be want.
func tells(t *testing.T, got, want api.Errno, what ...any) {
	t.Helper()
	if got != want {
		t.Fatal("told", got, "wanted", want, what)
	}
}

// done is calls that are to tell OK.
func done(t *testing.T, l ...api.Errno) {
	t.Helper()
	for i, err := range l {
		tells(t, err, api.OK, "call", i)
	}
}

// empty is a memory of n cells.
func empty[T any](t *testing.T, n int) *cell.Memory[T] {
	t.Helper()
	m, err := cell.New[T](n)
	if m == nil || err != api.OK {
		t.Fatal("cell.New", n, err)
	}
	return m
}

// filled is a memory whose cells hold these values.
func filled[T any](t *testing.T, values ...T) *cell.Memory[T] {
	t.Helper()
	m := empty[T](t, len(values))
	for i, v := range values {
		done(t, m.Fill(i, v))
	}
	return m
}

// watch is a watch of m without waiters.
func watch[T any](t *testing.T, m *cell.Memory[T]) *wait.Watch[T] {
	t.Helper()
	w, err := wait.New(m)
	if w == nil || err != api.OK {
		t.Fatal("New", w, err)
	}
	return w
}

// begun is a transaction of owner 1 over m, which has read these cells.
func begun[T any](t *testing.T, m *cell.Memory[T], cells ...int) *tl2.Tx[T] {
	t.Helper()
	x, err := tl2.Begin(m, 1)
	if x == nil || err != api.OK {
		t.Fatal("Begin", err)
	}
	for _, i := range cells {
		if _, err := x.Read(i); err != api.OK {
			t.Fatal("Read", i, err)
		}
	}
	return x
}

// publishes has cells hold nothing, from a version of each one's own on.
func publishes[T any](t *testing.T, m *cell.Memory[T], cells ...int) {
	t.Helper()
	for _, i := range cells {
		version, err := m.Advance()
		done(t, err, m.Lock(i, outsider), m.Publish(i, outsider, *new(T), version))
	}
}

// parks has id wait with x.
func parks[T any](t *testing.T, w *wait.Watch[T], id int, x *tl2.Tx[T]) {
	t.Helper()
	tells(t, w.Park(id, x), api.OK, "Park", id)
}

// parked is what Parked is to tell.
func parked[T any](t *testing.T, w *wait.Watch[T], want ...int) {
	t.Helper()
	if got := w.Parked(); !slices.Equal(got, want) {
		t.Fatal("Parked told", got, "wanted", want)
	}
}

// changed is what Changed is to tell.
func changed[T any](t *testing.T, w *wait.Watch[T], want ...int) {
	t.Helper()
	if got := w.Changed(); !slices.Equal(got, want) {
		t.Fatal("Changed told", got, "wanted", want)
	}
}

// forgets is what Forget is to tell.
func forgets[T any](t *testing.T, w *wait.Watch[T], id int, want bool) {
	t.Helper()
	if got := w.Forget(id); got != want {
		t.Fatal("Forget", id, "told", got, "wanted", want)
	}
}

// steps has x do so many steps of its end.
func steps[T any](t *testing.T, x *tl2.Tx[T], n int, want tl2.Status) *tl2.Tx[T] {
	t.Helper()
	for range n {
		x.Step()
	}
	if x.Status() != want {
		t.Fatal("the test itself", n, x.Status(), want)
	}
	return x
}

// someIds are ids that may be, at all edges.
func someIds() []int {
	return []int{1, 2, 7, 63, 64, 65, 1<<31 - 1, 1 << 31, 1<<32 + 1, math.MaxInt - 1, math.MaxInt}
}

// noIds are ids that may not be.
func noIds() []int {
	return []int{math.MinInt, math.MinInt + 1, -1 << 32, -7, -1, 0}
}

// All numbers of the chapter's examples.
func TestExamples(t *testing.T) {
	m := filled(t, 10, 11)
	w := watch(t, m)
	parks(t, w, 7, begun(t, m, 0, 1))
	changed(t, w)
	other, err := tl2.Begin(m, 2)
	done(t, err, other.Write(1, 5))
	steps(t, other, 3, tl2.Done)
	changed(t, w, 7)
	changed(t, w)
	parked(t, w)

	x := begun(t, filled(t, 1, 2))
	write := func(i, v int, err api.Errno) body {
		return func() api.Errno {
			done(t, x.Write(i, v))
			return err
		}
	}
	tells(t, wait.OrElse(x, write(0, 5, api.ErrWait), write(1, 6, api.OK)), api.OK)
	reads(t, x, 0, 1)
	reads(t, x, 1, 6)
	writes(t, x, 1)
}

// P18.1: New of a memory of any size is a watch without waiters.
func TestNew(t *testing.T) {
	for _, n := range []int{1, 2, 3, 64, 1023, 1024} {
		m := empty[int](t, n)
		w, err := wait.New(m)
		if w == nil || err != api.OK || !w.Made() {
			t.Fatal(n, w, err)
		}
		parked(t, w)
		changed(t, w)
		parks(t, w, 1, begun(t, m, n-1))
		publishes(t, m, n-1)
		changed(t, w, 1)
	}
}

// P18.1: New of a memory in which something is going on.
func TestNewInTheMidst(t *testing.T) {
	m := filled(t, 1, 2, 3)
	early := begun(t, m, 0, 1)
	publishes(t, m, 0, 2)
	done(t, m.Lock(1, outsider))
	w := watch(t, m)
	parked(t, w)
	changed(t, w)
	parks(t, w, 3, early)
	parks(t, w, 2, begun(t, m, 0, 2))
	changed(t, w, 3)
	parked(t, w, 2)
}

// P18.1: New of none, and of what is no memory.
func TestNewOfNoMemory(t *testing.T) {
	for k, m := range notMemories[int](t) {
		w, err := wait.New(m)
		if w != nil || err != api.ErrNil {
			t.Fatal(k, w, err)
		}
	}
	for k, m := range notMemories[string](t) {
		w, err := wait.New(m)
		if w != nil || err != api.ErrNil {
			t.Fatal(k, w, err)
		}
	}
}

// P18.1: what New refused is told to be none.
func TestMade(t *testing.T) {
	w := watch(t, empty[int](t, 1))
	for range 2 {
		if !w.Made() {
			t.Fatal("not made")
		}
	}
	refused, _ := wait.New[int](nil)
	if refused.Made() {
		t.Fatal("made of no memory")
	}
	for k, w := range notWatches(t) {
		if w.Made() {
			t.Fatal(k)
		}
	}
}

// P18.1: Parked tells the waiters by rising ids, in whatever order they were parked; Forget takes one away, once.
func TestParkedAndForget(t *testing.T) {
	orders := [][]int{{1, 2, 3, 4}, {4, 3, 2, 1}, {3, 1, 4, 2}, {2, 4, 1, 3}, {math.MaxInt, 1, 1 << 32, 7}, {1<<32 + 1, 1, 2, 1 << 31}}
	for _, order := range orders {
		m := empty[int](t, 4)
		w := watch(t, m)
		parked(t, w)
		var there []int
		for i, id := range order {
			parks(t, w, id, begun(t, m, i))
			there = append(there, id)
			slices.Sort(there)
			parked(t, w, there...)
			parked(t, w, there...)
		}
		for _, id := range order {
			forgets(t, w, id, true)
			forgets(t, w, id, false)
			there = slices.DeleteFunc(there, func(n int) bool { return n == id })
			parked(t, w, there...)
		}
		publishes(t, m, 0, 1, 2, 3)
		changed(t, w)
	}
}

// P18.1: Forget of none: nothing changes.
func TestForgetOfNone(t *testing.T) {
	m := empty[int](t, 2)
	w := watch(t, m)
	for _, id := range append(noIds(), someIds()...) {
		forgets(t, w, id, false)
	}
	parks(t, w, 5, begun(t, m, 0))
	parks(t, w, 9, begun(t, m, 1))
	for _, id := range append(noIds(), someIds()...) {
		forgets(t, w, id, false)
	}
	forgets(t, w, 4, false)
	forgets(t, w, 6, false)
	forgets(t, w, 1<<32+5, false)
	parked(t, w, 5, 9)
	publishes(t, m, 0)
	forgets(t, w, 9, true)
	changed(t, w, 5)
	forgets(t, w, 5, false)
}

// P18.1: a waiter that was forgotten is not told, though its cells change; it may be parked again.
func TestForgottenIsNotTold(t *testing.T) {
	m := empty[int](t, 2)
	w := watch(t, m)
	parks(t, w, 1, begun(t, m, 0))
	parks(t, w, 2, begun(t, m, 0))
	publishes(t, m, 0)
	forgets(t, w, 1, true)
	changed(t, w, 2)
	parks(t, w, 1, begun(t, m, 0))
	changed(t, w)
	publishes(t, m, 1)
	changed(t, w)
	publishes(t, m, 0)
	changed(t, w, 1)
}
