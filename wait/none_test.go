package wait_test

import (
	"slices"
	"testing"

	"ledgerstone/api"
	"ledgerstone/cell"
	"ledgerstone/tl2"
	"ledgerstone/wait"
)

// notMemories are memories that cell did not make, and none.
func notMemories[T any](t *testing.T) []*cell.Memory[T] {
	t.Helper()
	m := empty[T](t, 2)
	publishes(t, m, 0)
	copied := *m
	other := empty[T](t, 3)
	*other = *m
	emptied := empty[T](t, 3)
	*emptied = cell.Memory[T]{}
	var within struct{ m cell.Memory[T] }
	within.m = *m
	refused, _ := cell.New[T](0)
	return []*cell.Memory[T]{nil, {}, new(cell.Memory[T]), &copied, other, emptied, &within.m, refused}
}

// notTransactions are transactions that Begin did not answer, and none.
func notTransactions(t *testing.T) []*tl2.Tx[int] {
	t.Helper()
	m := empty[int](t, 3)
	x := begun(t, m, 0, 1)
	copied := *x
	other := begun(t, m)
	*other = *x
	emptied := begun(t, m, 2)
	*emptied = tl2.Tx[int]{}
	var within struct{ x tl2.Tx[int] }
	within.x = *x
	refused, _ := tl2.Begin(m, 0)
	return []*tl2.Tx[int]{nil, {}, new(tl2.Tx[int]), &copied, other, emptied, &within.x, refused}
}

// notWatches are watches that New did not answer, and none; in that which they are copies of 1, 2 and 64 wait, and 2 can go on.
func notWatches(t *testing.T) []*wait.Watch[int] {
	t.Helper()
	w := busy(t)
	copied := *w
	other := busy(t)
	*other = *w
	emptied := busy(t)
	*emptied = wait.Watch[int]{}
	var within struct{ w wait.Watch[int] }
	within.w = *w
	refused, _ := wait.New[int](nil)
	return []*wait.Watch[int]{nil, {}, new(wait.Watch[int]), &copied, other, emptied, &within.w, refused}
}

// busy is a watch of three cells, where 1, 2 and 64 wait, and 2 can go on.
func busy(t *testing.T) *wait.Watch[int] {
	t.Helper()
	m := empty[int](t, 3)
	w := watch(t, m)
	parks(t, w, 1, begun(t, m, 0))
	parks(t, w, 2, begun(t, m, 0, 1))
	parks(t, w, 64, begun(t, m))
	publishes(t, m, 1)
	return w
}

// R5: each call of a watch that is none, whatever the arguments are.
func TestNoWatch(t *testing.T) {
	good := begun(t, empty[int](t, 3), 0, 1)
	for k, w := range notWatches(t) {
		for range 2 {
			if w.Made() {
				t.Fatal(k)
			}
			parked(t, w)
			changed(t, w)
			for _, id := range append(noIds(), someIds()...) {
				forgets(t, w, id, false)
				tells(t, w.Park(id, good), api.ErrNil, k, id)
				for j, x := range notTransactions(t) {
					tells(t, w.Park(id, x), api.ErrNil, k, id, j)
				}
			}
			parked(t, w)
			changed(t, w)
		}
	}
}

// R5: a watch of something else than numbers, that New did not answer.
func TestNoWatchOfOtherKinds(t *testing.T) {
	noWatch[string](t)
	noWatch[[]byte](t)
	noWatch[struct{}](t)
	noWatch[any](t)
}

func noWatch[T any](t *testing.T) {
	t.Helper()
	x := begun(t, empty[T](t, 1), 0)
	copied := *watch(t, empty[T](t, 1))
	for _, w := range []*wait.Watch[T]{nil, {}, &copied} {
		tells(t, w.Park(1, x), api.ErrNil)
		parked(t, w)
		changed(t, w)
		forgets(t, w, 1, false)
		if w.Made() {
			t.Fatal("made")
		}
	}
}

// R5: a copy by value is no watch, and what is asked of it leaves the one that it is of as it was.
func TestCopyLeavesTheFirst(t *testing.T) {
	w := busy(t)
	copied := *w
	changed(t, &copied)
	forgets(t, &copied, 1, false)
	tells(t, copied.Park(3, begun(t, empty[int](t, 3))), api.ErrNil)
	parked(t, w, 1, 2, 64)
	changed(t, w, 2)
	changed(t, w)
	parked(t, w, 1, 64)
}

// P18.2, R5: Park of no transaction, whatever the id is: nothing changes.
func TestParkOfNoTransaction(t *testing.T) {
	for k, x := range notTransactions(t) {
		w := busy(t)
		for _, id := range append(noIds(), someIds()...) {
			tells(t, w.Park(id, x), api.ErrNil, k, id)
		}
		parked(t, w, 1, 2, 64)
		changed(t, w, 2)
		parked(t, w, 1, 64)
	}
}

// full is a watch of two cells with so many waiters, of the ids from 1 on, of which the even ones wait for cell 1, the others for cell 0.
func full(t *testing.T, n int) (*wait.Watch[int], *cell.Memory[int]) {
	t.Helper()
	m := empty[int](t, 2)
	w := watch(t, m)
	for id := 1; id <= n; id++ {
		parks(t, w, id, begun(t, m, (id+1)%2))
	}
	return w, m
}

// upTo is the numbers from a to b, each step-th.
func upTo(a, b, step int) []int {
	var out []int
	for ; a <= b; a += step {
		out = append(out, a)
	}
	return out
}

// Errors, R2: where several hold, the one that the table names first is told; nothing changes.
func TestWhichErrorComesFirst(t *testing.T) {
	w, m := full(t, 64)
	good, none := begun(t, m, 0, 1), (*tl2.Tx[int])(nil)
	publishes(t, m, 1)
	for _, c := range []struct {
		what string
		id   int
		x    *tl2.Tx[int]
		want api.Errno
	}{
		{"no transaction, id 0, full", 0, none, api.ErrNil},
		{"no transaction, below 0, full", -1, none, api.ErrNil},
		{"no transaction, parked, full", 5, none, api.ErrNil},
		{"no transaction, full", 65, none, api.ErrNil},
		{"id 0, full", 0, good, api.ErrArg},
		{"below 0, full", -64, good, api.ErrArg},
		{"parked, full", 1, good, api.ErrBusy},
		{"parked, can go on, full", 64, good, api.ErrBusy},
		{"full", 65, good, api.ErrFull},
	} {
		tells(t, w.Park(c.id, c.x), c.want, c.what)
		parked(t, w, upTo(1, 64, 1)...)
	}
	changed(t, w, upTo(2, 64, 2)...)
	publishes(t, m, 0)
	changed(t, w, upTo(1, 63, 2)...)
	changed(t, w)
}

// Errors: of OrElse the want of a transaction or of a function comes ahead of what Scope tells.
func TestWhichErrorOfOrElseComesFirst(t *testing.T) {
	x := begun(t, empty[int](t, 2))
	done(t, x.Abort())
	tells(t, wait.OrElse(x, never(t), nil), api.ErrNil)
	tells(t, wait.OrElse(x, nil, never(t)), api.ErrNil)
	tells(t, wait.OrElse(x, never(t), never(t)), api.ErrOver)
	x = deep(t, 8)
	tells(t, wait.OrElse(x, never(t), nil), api.ErrNil)
	tells(t, wait.OrElse(x, nil, never(t)), api.ErrNil)
	tells(t, wait.OrElse(x, never(t), never(t)), api.ErrLong)
	if x.Depth() != 8 || !slices.Equal(x.Writes(), []int{0}) {
		t.Fatal(x.Depth(), x.Writes())
	}
}

// P18.3, R5: OrElse of no transaction, of no functions, of both: nothing is called, nothing changes.
func TestOrElseOfNone(t *testing.T) {
	for k, x := range notTransactions(t) {
		for _, one := range []body{nil, never(t)} {
			for _, other := range []body{nil, never(t)} {
				tells(t, wait.OrElse(x, one, other), api.ErrNil, k, one == nil, other == nil)
			}
		}
	}
	for depth := range 9 {
		x := deep(t, depth)
		before := whole(x)
		tells(t, wait.OrElse(x, nil, never(t)), api.ErrNil)
		tells(t, wait.OrElse(x, never(t), nil), api.ErrNil)
		tells(t, wait.OrElse(x, nil, nil), api.ErrNil)
		if after := whole(x); after != before {
			t.Fatal("not as it was:", before, after)
		}
	}
}
