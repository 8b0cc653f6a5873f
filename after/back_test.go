package after_test

import (
	"math"
	"testing"

	"ledgerstone/after"
)

// mixed is a queue where owner 2 has put off n actions, between those of owners 1 and 3, which have put off n+1 and one; one of 2's is due with version 1, one of 1's with version 9.
func mixed(t *testing.T, n int) *after.Queue[int] {
	t.Helper()
	q := after.New[int]()
	puts(t, q, 2, 1000)
	commits(t, q, 2, 1, 1)
	puts(t, q, 1, 1001)
	commits(t, q, 1, 9, 1)
	puts(t, q, 1, 100)
	for k := range n {
		puts(t, q, 2, k)
		puts(t, q, 1, 101+k)
	}
	puts(t, q, 3, 300)
	return q
}

// restOfMixed has all that is in a queue from mixed be told, of 2's actions just the first ones.
func restOfMixed(t *testing.T, q *after.Queue[int], n, left int) {
	t.Helper()
	type e = after.Entry[int]
	length(t, q, left+n+2, 2)
	marks(t, q, 1, n+1)
	marks(t, q, 2, left)
	marks(t, q, 3, 1)
	takes(t, q, 100, e{1, 2, 1000}, e{9, 1, 1001})
	commits(t, q, 3, 4, 1)
	commits(t, q, 2, 5, left)
	commits(t, q, 1, 6, n+1)
	want := []e{{4, 3, 300}}
	for k := range left {
		want = append(want, e{5, 2, k})
	}
	for k := range n + 1 {
		want = append(want, e{6, 1, 100 + k})
	}
	takes(t, q, 100, want...)
	length(t, q, 0, 0)
}

// P19.2: Mark of none, of some, of all that waits; of what is due or gone, it tells nothing.
func TestMark(t *testing.T) {
	for n := range 6 {
		q := mixed(t, n)
		for range 2 {
			marks(t, q, 2, n)
			marks(t, q, 1, n+1)
			marks(t, q, 3, 1)
			marks(t, q, 4, 0)
			for _, owner := range noOwners() {
				marks(t, q, owner, 0)
			}
		}
		restOfMixed(t, q, n, n)
		marks(t, q, 1, 0)
		marks(t, q, 2, 0)
	}
}

// P19.2: Back with a mark below 0: nothing; of 0: all is gone; equal to and above the number: nothing; between them the first ones stay, in their order; what others put off, and what is due, stays.
func TestBack(t *testing.T) {
	for n := range 8 {
		for _, mark := range []int{math.MinInt, math.MinInt + 1, -2, -1, 0, 1, 2, 3, 4, 5, 6, 7, 8, 9, 1023, 1024, 1025, math.MaxInt} {
			left := n
			if mark >= 0 && mark < n {
				left = mark
			}
			q := mixed(t, n)
			backs(t, q, 2, mark, n-left)
			marks(t, q, 2, left)
			backs(t, q, 2, mark, 0)
			restOfMixed(t, q, n, left)
		}
	}
}

// P19.2: Back and Drop of an owner that has nothing that waits, or of none: nothing, whatever the mark is.
func TestBackOfNobody(t *testing.T) {
	for n := range 4 {
		q := mixed(t, n)
		for _, owner := range append(noOwners(), 4, 5, math.MaxInt) {
			for _, mark := range []int{math.MinInt, -1, 0, 1, n, math.MaxInt} {
				backs(t, q, owner, mark, 0)
			}
			drops(t, q, owner, 0)
		}
		restOfMixed(t, q, n, n)
	}
}

// P19.2: Drop: all that waits with the owner is gone, and nothing else.
func TestDrop(t *testing.T) {
	for n := range 6 {
		q := mixed(t, n)
		drops(t, q, 2, n)
		drops(t, q, 2, 0)
		restOfMixed(t, q, n, 0)
		drops(t, q, 2, 0)
		drops(t, q, 1, 0)
	}
}

// P19.2: what was committed is due: no Drop and no Back takes it away.
func TestDropLeavesWhatIsDue(t *testing.T) {
	q := after.New[string]()
	puts(t, q, 1, "a", "b")
	commits(t, q, 1, 3, 2)
	drops(t, q, 1, 0)
	backs(t, q, 1, 0, 0)
	puts(t, q, 1, "c")
	backs(t, q, 1, 1, 0)
	length(t, q, 1, 2)
	drops(t, q, 1, 1)
	length(t, q, 0, 2)
	takes(t, q, 3, entry{3, 1, "a"}, entry{3, 1, "b"})
}

// P19.2: behind a Back and a Drop an owner may put off more: it stands behind what is left.
func TestLaterBehindBack(t *testing.T) {
	q := after.New[string]()
	puts(t, q, 1, "a", "b", "c")
	puts(t, q, 2, "x")
	backs(t, q, 1, 1, 2)
	puts(t, q, 1, "d", "b")
	backs(t, q, 1, 2, 1)
	puts(t, q, 1, "e")
	drops(t, q, 2, 1)
	puts(t, q, 2, "y")
	commits(t, q, 1, 1, 3)
	commits(t, q, 2, 1, 1)
	takes(t, q, 1, entry{1, 1, "a"}, entry{1, 1, "d"}, entry{1, 1, "e"}, entry{1, 2, "y"})
}

// P19.2: scopes in scopes: a Back to a Mark brings back how it was then; a Mark counts for its owner alone, and behind a Commit from 0 on.
func TestMarkAndBack(t *testing.T) {
	q := after.New[string]()
	puts(t, q, 1, "a")
	outer := q.Mark(1)
	puts(t, q, 2, "x")
	puts(t, q, 1, "b", "c")
	inner := q.Mark(1)
	puts(t, q, 1, "d")
	puts(t, q, 2, "y")
	if outer != 1 || inner != 3 {
		t.Fatal(outer, inner)
	}
	backs(t, q, 1, inner, 1)
	marks(t, q, 1, inner)
	puts(t, q, 1, "e", "f")
	backs(t, q, 1, outer, 4)
	marks(t, q, 1, outer)
	marks(t, q, 2, 2)
	commits(t, q, 1, 7, 1)
	marks(t, q, 1, 0)
	puts(t, q, 1, "g", "h")
	backs(t, q, 1, outer, 1)
	commits(t, q, 2, 6, 2)
	commits(t, q, 1, 6, 1)
	takes(t, q, 7, entry{6, 2, "x"}, entry{6, 2, "y"}, entry{6, 1, "g"}, entry{7, 1, "a"})
}
