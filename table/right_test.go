package table_test

import (
	"math/rand"
	"slices"
	"testing"

	"ledgerstone/table"
)

// isRight is whether l is a right list, as the chapter's words have it.
func isRight(l []entry) bool {
	var keys []string
	for len(l) > 0 && l[0].Used {
		keys, l = append(keys, l[0].Key), l[1:]
	}
	for _, e := range l {
		if e.Used || e.Key != "" || e.Value != "" {
			return false
		}
	}
	return slices.Equal(keys, slices.Compact(slices.Sorted(slices.Values(keys))))
}

// right is what Right is to tell.
func right(t *testing.T, want bool, l ...entry) {
	t.Helper()
	if got := table.Right(l); got != want {
		t.Fatal("Right told", got, "of", l)
	}
}

// P20.1: Right of lists of each kind.
func TestRight(t *testing.T) {
	right(t, true)
	if !table.Right(nil) || !table.Right([]entry{}) {
		t.Fatal("the empty list")
	}
	for _, l := range [][]entry{
		{nothing},
		{nothing, nothing},
		{has("", "")},
		{has("", ""), nothing},
		{has("a", "")},
		{has("a", "1"), has("b", "1")},
		{has("", "z"), has("a", "y"), has("ab", "x"), has("b", "w")},
		{has("a", "1"), has("b", "1"), nothing, nothing},
		{has("a", "2"), has("b", "1")},
		{has("A", ""), has("a", "")},
		{has("B", ""), has("a", "")},
		{has("", ""), has("\x00", ""), has("\x00\x00", ""), has("\x01", "")},
		{has("a", ""), has("a\x00", ""), has("a\x00b", ""), has("aa", "")},
		{has("\x7f", ""), has("\x80", ""), has("\xff", ""), has("\xff\x00", "")},
		{has("z", ""), has("é", ""), has("\uffff", ""), has("\U0001f600", ""), has("\xff", "")},
	} {
		right(t, true, l...)
	}
	for _, l := range [][]entry{
		{{Key: "a"}},
		{{Value: "1"}},
		{{Key: "a", Value: "1"}},
		{nothing, {Key: "a"}},
		{nothing, {Value: "1"}},
		{has("a", "1"), {Key: "b"}},
		{has("a", "1"), {Value: "1"}},
		{has("a", "1"), {Key: "a", Value: "1"}},
		{has("a", "1"), nothing, {Key: "b"}},
		{nothing, has("a", "1")},
		{nothing, has("", "")},
		{nothing, nothing, has("a", "1")},
		{has("a", "1"), nothing, has("b", "1")},
		{has("a", "1"), nothing, nothing, has("b", "1")},
		{has("a", "1"), has("a", "1")},
		{has("a", "1"), has("a", "2")},
		{has("", ""), has("", "")},
		{has("b", "1"), has("a", "1")},
		{has("a", "1"), has("", "")},
		{has("a", "1"), has("b", "1"), has("b", "2"), nothing},
		{has("a", "1"), has("c", "1"), has("b", "1"), nothing},
		{has("b", "1"), has("a", "1"), has("c", "1")},
		{has("a", "1"), has("b", "1"), has("a", "1")},
		{has("ab", "1"), has("a", "1")},
		{has("a", ""), has("A", "")},
		{has("9", ""), has("10", "")},
		{has("\x80", ""), has("\x7f", "")},
		{has("\xff", ""), has("\U0001f600", "")},
	} {
		right(t, false, l...)
	}
}

// P20.1: Right of every list of up to five of these entries.
func TestRightOfEveryShortList(t *testing.T) {
	pool := []entry{nothing, {Key: "a"}, {Value: "1"}, has("", ""), has("", "1"), has("a", "1"), has("a", "2"), has("b", "")}
	count, rights := 0, 0
	var from func(l []entry)
	from = func(l []entry) {
		want := isRight(l)
		right(t, want, l...)
		count++
		if want {
			rights++
		}
		for _, e := range pool {
			if len(l) < 5 {
				from(append(l[:len(l):len(l)], e))
			}
		}
	}
	from(nil)
	// Of the keys "", a and b any may be there, with two values, two and one: 1, 5, 8 and 4 lists of none to three keys, and nothing behind up to five.
	if count != 1+8+64+512+4096+32768 || rights != 6*1+5*5+4*8+3*4 {
		t.Fatal("the test itself", count, rights)
	}
}

// P20.1: Right of long lists, of more than 200 too: with one place spoilt at each place.
func TestRightOfLongLists(t *testing.T) {
	r := rand.New(rand.NewSource(1))
	for _, n := range []int{2, 3, 50, 199, 200, 201, 1000} {
		for _, used := range []int{0, 1, n / 2, n - 1, n} {
			l := padded(n, many(used)...)
			right(t, true, l...)
			for i := range l {
				for _, e := range []entry{nothing, {Key: l[i].Key + "x"}, {Value: "x"}, has(key(2*i+1), "x"), has(key(2*i), ""), has(key(2*i-1), ""), has("", ""), has("~", "")} {
					spoilt := slices.Clone(l)
					spoilt[i] = e
					right(t, isRight(spoilt), spoilt...)
				}
				if i > 0 {
					spoilt := slices.Clone(l)
					spoilt[i], spoilt[i-1] = spoilt[i-1], spoilt[i]
					right(t, i > used, spoilt...)
					k := r.Intn(i)
					spoilt = slices.Clone(l)
					spoilt[i] = spoilt[k]
					right(t, k >= used, spoilt...)
				}
			}
		}
	}
}
