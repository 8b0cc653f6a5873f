package after_test

import (
	"math"
	"testing"

	"ledgerstone/after"
	"ledgerstone/api"
)

// busy is a queue where 1 and 2 have put off two actions each, one of 3's is due with version 4, and one of 1's with version 6.
func busy[A any](t *testing.T, a A) *after.Queue[A] {
	t.Helper()
	q := after.New[A]()
	puts(t, q, 3, a)
	commits(t, q, 3, 4, 1)
	puts(t, q, 1, a)
	commits(t, q, 1, 6, 1)
	puts(t, q, 1, a)
	puts(t, q, 2, a, a)
	puts(t, q, 1, a)
	return q
}

// isBusy is whether q is as busy left it; it is empty behind that.
func isBusy(t *testing.T, q *queue, a string) {
	t.Helper()
	length(t, q, 4, 2)
	marks(t, q, 1, 2)
	marks(t, q, 2, 2)
	takes(t, q, 9, entry{4, 3, a}, entry{6, 1, a})
	commits(t, q, 1, 1, 2)
	commits(t, q, 2, 0, 2)
	takes(t, q, 1, entry{0, 2, a}, entry{0, 2, a}, entry{1, 1, a}, entry{1, 1, a})
	length(t, q, 0, 0)
}

// notQueues are queues that New did not answer, and none.
func notQueues[A any](t *testing.T, a A) []*after.Queue[A] {
	t.Helper()
	q := busy(t, a)
	copied := *q
	other := after.New[A]()
	*other = *q
	emptied := busy(t, a)
	*emptied = after.Queue[A]{}
	var within struct{ q after.Queue[A] }
	within.q = *q
	return []*after.Queue[A]{nil, {}, new(after.Queue[A]), &copied, other, emptied, &within.q}
}

// noQueues asks each call of queues that are none, whatever the arguments are.
func noQueues[A any](t *testing.T, a A) {
	t.Helper()
	for k, q := range notQueues(t, a) {
		for range 2 {
			for _, owner := range append(noOwners(), someOwners()...) {
				tells(t, q.Later(owner, a), api.ErrNil, k, owner)
				for _, version := range append(noVersions(), someVersions()...) {
					refusesCommit(t, q, owner, version, api.ErrNil, k)
				}
				marks(t, q, owner, 0)
				for _, mark := range []int{math.MinInt, -1, 0, 1, math.MaxInt} {
					backs(t, q, owner, mark, 0)
				}
				drops(t, q, owner, 0)
			}
			for _, upto := range append(noVersions(), someVersions()...) {
				if l := q.Take(upto); len(l) != 0 {
					t.Fatal(k, upto, l)
				}
			}
			length(t, q, 0, 0)
		}
	}
}

// R5: each call of a queue that is nil, or that New did not answer: of texts, numbers, and something else.
func TestNoQueue(t *testing.T) {
	noQueues(t, "a")
	noQueues(t, 5)
	noQueues(t, []byte("a"))
	noQueues(t, struct{}{})
	noQueues(t, func() {})
	noQueues[any](t, nil)
}

// R5: a copy by value is no queue, and what is asked of it leaves the one that it is of as it was.
func TestCopyLeavesTheFirst(t *testing.T) {
	q := busy(t, "a")
	copied := *q
	copied.Later(1, "x")
	copied.Commit(1, 3)
	copied.Take(math.MaxInt64)
	copied.Back(1, 1)
	copied.Drop(2)
	copied.Mark(1)
	copied.Len()
	isBusy(t, q, "a")
}

// Errors, R2: where several hold, the one that the table names first is told; nothing changes.
func TestWhichErrorComesFirst(t *testing.T) {
	for _, q := range []*after.Queue[int]{numbers(t, 1024, 0), numbers(t, 0, 1024), numbers(t, 500, 524)} {
		waiting, due := q.Len()
		for _, owner := range noOwners() {
			tells(t, q.Later(owner, 7), api.ErrArg, "no owner, full", owner)
			refusesCommit(t, q, owner, -1, api.ErrArg, "no owner, no version")
			refusesCommit(t, q, owner, 5, api.ErrArg, "no owner")
			length(t, q, waiting, due)
		}
		tells(t, q.Later(1, 7), api.ErrFull)
		refusesCommit(t, q, 1, -1, api.ErrArg, "no version")
		length(t, q, waiting, due)
		marks(t, q, 1, waiting)
	}
	for _, q := range notQueues(t, 1) {
		tells(t, q.Later(0, 7), api.ErrNil, "no queue, no owner")
		refusesCommit(t, q, 0, -1, api.ErrNil, "no queue, no owner, no version")
		refusesCommit(t, q, 1, -1, api.ErrNil, "no queue, no version")
	}
}

// R2: calls that err, and calls that find nothing, leave all as it was.
func TestNothingChanges(t *testing.T) {
	q := busy(t, "a")
	for _, owner := range noOwners() {
		q.Later(owner, "x")
		q.Drop(owner)
		q.Mark(owner)
		q.Back(owner, 0)
		q.Back(owner, -1)
		for _, version := range append(noVersions(), someVersions()...) {
			q.Commit(owner, version)
		}
	}
	for _, owner := range []int{4, 5, 1024, math.MaxInt} {
		drops(t, q, owner, 0)
		backs(t, q, owner, 0, 0)
		for _, version := range someVersions() {
			commits(t, q, owner, version, 0)
		}
	}
	for _, owner := range []int{1, 2, 3} {
		for _, version := range noVersions() {
			refusesCommit(t, q, owner, version, api.ErrArg)
		}
		backs(t, q, owner, -1, 0)
		backs(t, q, owner, 2, 0)
	}
	for _, upto := range append(noVersions(), 0, 1, 2, 3) {
		takes(t, q, upto)
	}
	isBusy(t, q, "a")
}
