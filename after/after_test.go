package after_test

import (
	"math"
	"slices"
	"testing"

	"ledgerstone/after"
	"ledgerstone/api"
)

// queue and entry are of texts, as most tests have them.
type (
	queue = after.Queue[string]
	entry = after.Entry[string]
)

// noOwners are numbers that no owner has.
func noOwners() []int { return []int{0, -1, -2, -1024, math.MinInt32, math.MinInt} }

// someOwners are numbers that an owner may have, the least and the greatest among them.
func someOwners() []int { return []int{1, 2, 3, 1024, 1 << 40, math.MaxInt - 1, math.MaxInt} }

// noVersions are numbers that no version is.
func noVersions() []int64 { return []int64{-1, -2, math.MinInt32, math.MinInt64} }

// someVersions are numbers that a version may be, the least and the greatest among them.
func someVersions() []int64 {
	return []int64{0, 1, 2, api.MaxClock, api.MaxClock + 1, math.MaxInt64 - 1, math.MaxInt64}
}

func tells(t *testing.T, got, want api.Errno, what ...any) {
	t.Helper()
	if got != want {
		t.Fatal("told", got, "wanted", want, what)
	}
}

// puts has owner put off each of these, behind one another.
func puts[A any](t *testing.T, q *after.Queue[A], owner int, actions ...A) {
	t.Helper()
	for _, a := range actions {
		tells(t, q.Later(owner, a), api.OK, owner)
	}
}

func commits[A any](t *testing.T, q *after.Queue[A], owner int, version int64, want int) {
	t.Helper()
	if n, err := q.Commit(owner, version); n != want || err != api.OK {
		t.Fatal("Commit", owner, version, "told", n, err, "wanted", want)
	}
}

// refusesCommit has the Commit tell that error, and no number.
func refusesCommit[A any](t *testing.T, q *after.Queue[A], owner int, version int64, want api.Errno, what ...any) {
	t.Helper()
	if n, err := q.Commit(owner, version); n != 0 || err != want {
		t.Fatal("Commit", owner, version, "told", n, err, "wanted", want, what)
	}
}

func drops[A any](t *testing.T, q *after.Queue[A], owner, want int) {
	t.Helper()
	if n := q.Drop(owner); n != want {
		t.Fatal("Drop", owner, "told", n, "wanted", want)
	}
}

func marks[A any](t *testing.T, q *after.Queue[A], owner, want int) {
	t.Helper()
	if n := q.Mark(owner); n != want {
		t.Fatal("Mark", owner, "told", n, "wanted", want)
	}
}

func backs[A any](t *testing.T, q *after.Queue[A], owner, mark, want int) {
	t.Helper()
	if n := q.Back(owner, mark); n != want {
		t.Fatal("Back", owner, mark, "told", n, "wanted", want)
	}
}

func takes[A comparable](t *testing.T, q *after.Queue[A], upto int64, want ...after.Entry[A]) {
	t.Helper()
	if got := q.Take(upto); !slices.Equal(got, want) {
		t.Fatal("Take", upto, "told", got, "wanted", want)
	}
}

func length[A any](t *testing.T, q *after.Queue[A], waiting, due int) {
	t.Helper()
	if n, m := q.Len(); n != waiting || m != due {
		t.Fatal("Len told", n, m, "wanted", waiting, due)
	}
}

// Examples: all of the chapter's.
func TestExamples(t *testing.T) {
	q := after.New[string]()
	puts(t, q, 1, "a")
	puts(t, q, 2, "b")
	puts(t, q, 1, "c")
	length(t, q, 3, 0)
	commits(t, q, 2, 5, 1)
	commits(t, q, 1, 4, 2)
	length(t, q, 0, 3)
	takes(t, q, 4, entry{4, 1, "a"}, entry{4, 1, "c"})
	takes(t, q, 9, entry{5, 2, "b"})
	length(t, q, 0, 0)
	puts(t, q, 3, "d")
	drops(t, q, 3, 1)
	length(t, q, 0, 0)
}

// P19.1: in a new queue nothing waits, and nothing is due.
func TestNew(t *testing.T) {
	q := after.New[string]()
	length(t, q, 0, 0)
	for _, owner := range append(noOwners(), someOwners()...) {
		marks(t, q, owner, 0)
		drops(t, q, owner, 0)
		for _, mark := range []int{math.MinInt, -1, 0, 1, math.MaxInt} {
			backs(t, q, owner, mark, 0)
		}
	}
	for _, upto := range append(noVersions(), someVersions()...) {
		takes(t, q, upto)
	}
	for _, owner := range someOwners() {
		for _, version := range someVersions() {
			commits(t, q, owner, version, 0)
		}
	}
	length(t, q, 0, 0)
	takes(t, q, math.MaxInt64)
}

// P19.1: each New is a queue of its own.
func TestQueuesAreApart(t *testing.T) {
	one, other := after.New[string](), after.New[string]()
	if one == other {
		t.Fatal("one queue")
	}
	puts(t, one, 1, "a", "b")
	length(t, other, 0, 0)
	puts(t, other, 1, "c")
	commits(t, one, 1, 7, 2)
	length(t, other, 1, 0)
	commits(t, other, 1, 8, 1)
	takes(t, one, 9, entry{7, 1, "a"}, entry{7, 1, "b"})
	length(t, other, 0, 1)
	takes(t, other, 9, entry{8, 1, "c"})
}
