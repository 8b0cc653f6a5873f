package after_test

import (
	"math"
	"slices"
	"testing"

	"ledgerstone/after"
)

// ladder is a queue where two actions are due with each of the versions 0, 2, .. 10, and one waits.
func ladder(t *testing.T) (*queue, []entry) {
	t.Helper()
	q := after.New[string]()
	var all []entry
	for version := int64(10); version >= 0; version -= 2 {
		puts(t, q, 1, "a", "b")
		commits(t, q, 1, version, 2)
		all = append([]entry{{version, 1, "a"}, {version, 1, "b"}}, all...)
	}
	puts(t, q, 2, "c")
	length(t, q, 1, 12)
	return q, all
}

// upTo is those of l with at most that version, and the others.
func upTo(l []entry, version int64) (told, left []entry) {
	for _, e := range l {
		if e.Version <= version {
			told = append(told, e)
		} else {
			left = append(left, e)
		}
	}
	return told, left
}

// P19.3: with a version below 0, below, equal to, between and above those that are due; twice; the others stay for another Take.
func TestTake(t *testing.T) {
	for _, upto := range append(noVersions(), 0, 1, 2, 3, 4, 5, 6, 7, 8, 9, 10, 11, 1<<40, math.MaxInt64) {
		q, all := ladder(t)
		told, left := upTo(all, upto)
		takes(t, q, upto, told...)
		length(t, q, 1, len(left))
		takes(t, q, upto)
		takes(t, q, math.MinInt64)
		length(t, q, 1, len(left))
		takes(t, q, math.MaxInt64, left...)
		length(t, q, 1, 0)
		takes(t, q, math.MaxInt64)
		marks(t, q, 2, 1)
	}
}

// P19.3, P19.4: two Takes behind one another, each with any version: each is told once.
func TestTakeByParts(t *testing.T) {
	for first := int64(-1); first <= 11; first++ {
		for second := int64(-1); second <= 11; second++ {
			q, all := ladder(t)
			told, left := upTo(all, first)
			takes(t, q, first, told...)
			told, left = upTo(left, second)
			takes(t, q, second, told...)
			length(t, q, 1, len(left))
			takes(t, q, 10, left...)
		}
	}
}

// P19.3: what gets due behind a Take, with a version below those that were told, is told by the next one, ahead of what is left.
func TestCommitBehindTake(t *testing.T) {
	for version := int64(0); version <= 11; version++ {
		q, all := ladder(t)
		told, left := upTo(all, 5)
		takes(t, q, 5, told...)
		commits(t, q, 2, version, 1)
		length(t, q, 0, len(left)+1)
		ahead, behind := upTo(left, version)
		takes(t, q, 99, slices.Concat(ahead, []entry{{version, 2, "c"}}, behind)...)
		length(t, q, 0, 0)
	}
}

// P19.3: what waits is told by no Take, whatever its version is.
func TestTakeLeavesWhatWaits(t *testing.T) {
	q := after.New[string]()
	puts(t, q, 1, "a", "b")
	puts(t, q, math.MaxInt, "c")
	for _, upto := range append(noVersions(), someVersions()...) {
		takes(t, q, upto)
		length(t, q, 3, 0)
	}
	commits(t, q, 1, 0, 2)
	for _, upto := range noVersions() {
		takes(t, q, upto)
		length(t, q, 1, 2)
	}
	takes(t, q, 0, entry{0, 1, "a"}, entry{0, 1, "b"})
	length(t, q, 1, 0)
}

// P19.3: Len behind each call; it changes nothing itself.
func TestLen(t *testing.T) {
	q := after.New[string]()
	is := func(waiting, due int) {
		t.Helper()
		for range 3 {
			length(t, q, waiting, due)
		}
	}
	is(0, 0)
	puts(t, q, 1, "a")
	is(1, 0)
	puts(t, q, 2, "b", "c")
	is(3, 0)
	q.Mark(2)
	is(3, 0)
	commits(t, q, 2, 5, 2)
	is(1, 2)
	q.Later(0, "x")
	q.Commit(1, -1)
	q.Commit(-1, 1)
	is(1, 2)
	puts(t, q, 2, "d", "e", "f")
	is(4, 2)
	backs(t, q, 2, 1, 2)
	is(2, 2)
	commits(t, q, 3, 7, 0)
	is(2, 2)
	commits(t, q, 2, 7, 1)
	is(1, 3)
	takes(t, q, 5, entry{5, 2, "b"}, entry{5, 2, "c"})
	is(1, 1)
	drops(t, q, 1, 1)
	is(0, 1)
	takes(t, q, 7, entry{7, 2, "d"})
	is(0, 0)
}
