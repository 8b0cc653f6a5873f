package after_test

import (
	"math"
	"testing"

	"ledgerstone/after"
	"ledgerstone/api"
)

// P19.1: an owner is a number from 1 on, the greatest too; another one is refused, and nothing waits for it.
func TestLaterOfOwners(t *testing.T) {
	for _, owner := range someOwners() {
		q := after.New[string]()
		puts(t, q, owner, "a")
		length(t, q, 1, 0)
		marks(t, q, owner, 1)
		commits(t, q, owner, 3, 1)
		takes(t, q, 3, entry{3, owner, "a"})
	}
	q := after.New[string]()
	puts(t, q, 1, "a")
	for _, owner := range noOwners() {
		tells(t, q.Later(owner, "x"), api.ErrArg, owner)
		length(t, q, 1, 0)
		marks(t, q, owner, 0)
	}
	commits(t, q, 1, 0, 1)
	takes(t, q, 9, entry{0, 1, "a"})
}

// P19.1: what is put off waits behind all others of its owner; the same action may wait as often as it was put off.
func TestLaterStandsBehind(t *testing.T) {
	q := after.New[string]()
	puts(t, q, 1, "c", "a", "b", "a", "", "c")
	length(t, q, 6, 0)
	commits(t, q, 1, 1, 6)
	var want []entry
	for _, a := range []string{"c", "a", "b", "a", "", "c"} {
		want = append(want, entry{1, 1, a})
	}
	takes(t, q, 1, want...)
}

// numbers is a queue of numbers of which so many are put off by owner 1, and so many others are due with version 5, of owner 2.
func numbers(t *testing.T, waiting, due int) *after.Queue[int] {
	t.Helper()
	q := after.New[int]()
	for k := range due {
		puts(t, q, 2, -k-1)
	}
	commits(t, q, 2, 5, due)
	for k := range waiting {
		puts(t, q, 1, k)
	}
	length(t, q, waiting, due)
	return q
}

// full has a Later be refused, of whomever it is: the queue stays as it is.
func full(t *testing.T, q *after.Queue[int]) {
	t.Helper()
	waiting, due := q.Len()
	if waiting+due != 1024 {
		t.Fatal(waiting, due)
	}
	for _, owner := range someOwners() {
		tells(t, q.Later(owner, 7), api.ErrFull, owner)
		length(t, q, waiting, due)
	}
}

// P19.1: 1024 actions, and no more, wait or are due: all of them wait, all are due, some do either.
func TestLaterOfAFullQueue(t *testing.T) {
	for _, due := range []int{0, 1, 2, 511, 512, 513, 1000, 1022, 1023, 1024} {
		waiting := 1024 - due
		q := numbers(t, waiting, due)
		full(t, q)
		if waiting > 0 {
			q = numbers(t, waiting-1, due)
			puts(t, q, 3, 1)
			full(t, q)
			marks(t, q, 3, 1)
			marks(t, q, 1, waiting-1)
		}
		if due > 0 {
			q = numbers(t, waiting, due-1)
			puts(t, q, 1, waiting)
			full(t, q)
			marks(t, q, 1, waiting+1)
		}
	}
}

// P19.1: what is committed is in the queue as it was before: a full one stays full.
func TestCommitMakesNoRoom(t *testing.T) {
	q := numbers(t, 1024, 0)
	commits(t, q, 2, 5, 0)
	full(t, q)
	commits(t, q, 1, 9, 1024)
	full(t, q)
	length(t, q, 0, 1024)
	commits(t, q, 1, 9, 0)
	full(t, q)
}

// refill puts off as much as there is room for, which is n actions.
func refill(t *testing.T, q *after.Queue[int], n int) {
	t.Helper()
	for k := range n {
		puts(t, q, 9, k)
	}
	full(t, q)
}

// P19.1: room that a Take, a Drop or a Back makes is there again, and no more than that.
func TestRoomComesBack(t *testing.T) {
	q := numbers(t, 400, 624)
	drops(t, q, 1, 400)
	length(t, q, 0, 624)
	refill(t, q, 400)
	drops(t, q, 1, 0)
	full(t, q)
	if l := q.Take(4); len(l) != 0 {
		t.Fatal(l)
	}
	full(t, q)
	if l := q.Take(5); len(l) != 624 || l[0].Action != -1 || l[623].Action != -624 {
		t.Fatal(len(l))
	}
	length(t, q, 400, 0)
	refill(t, q, 624)
	backs(t, q, 9, 1024, 0)
	backs(t, q, 9, -1, 0)
	full(t, q)
	backs(t, q, 9, 1023, 1)
	refill(t, q, 1)
	backs(t, q, 9, 24, 1000)
	refill(t, q, 1000)
	commits(t, q, 9, 5, 1024)
	full(t, q)
	if l := q.Take(math.MaxInt64); len(l) != 1024 || l[1023].Action != 999 {
		t.Fatal(len(l))
	}
	refill(t, q, 1024)
}

// P19.1: a queue that is refilled over and over takes as many as a new one.
func TestManyRounds(t *testing.T) {
	q := after.New[int]()
	for round := range 40 {
		for k := range 1024 {
			puts(t, q, 1+k%3, k)
		}
		full(t, q)
		total := q.Drop(1)
		for owner := 2; owner <= 3; owner++ {
			n, err := q.Commit(owner, int64(round))
			tells(t, err, api.OK)
			total += n
		}
		if total != 1024 || len(q.Take(int64(round))) != 682 {
			t.Fatal(round, total)
		}
		length(t, q, 0, 0)
	}
}
