package table_test

import (
	"math/rand"
	"slices"
	"testing"

	"ledgerstone/api"
	"ledgerstone/table"
)

// spoil changes each entry of l, its spare room too.
func spoil(l []entry) {
	l = l[:cap(l)]
	for i := range l {
		l[i] = has("spoilt", "spoilt")
	}
}

// R3: lists that were told may be written over, their spare room too: no other list, and nothing that the table tells or does, is changed by it.
func TestListsAreNew(t *testing.T) {
	for _, n := range []int{1, 2, 3, 7, 64, 199, 200} {
		for _, used := range []int{0, 1, n / 2, n - 1, n} {
			l := many(used)
			m := filled(t, n, 0, l...)
			x := begun(t, m, 1)
			y := of(t, x, 0, n)
			first, _ := y.List()
			second, _ := y.List()
			before := whole(m, x)
			spoil(first)
			spoil(append(first, nothing))
			if !slices.Equal(second, l) {
				t.Fatal("two lists share memory", second)
			}
			spoil(second)
			lists(t, y, l...)
			for k, e := range l {
				gets(t, y, e.Key, e.Value)
				next(t, y, key(2*k), e)
			}
			if behind := whole(m, x); behind != before {
				t.Fatal("not as it was:", before, behind)
			}
			if used < n {
				puts(t, y, "", "new")
				l = slices.Insert(l, 0, has("", "new"))
			}
			told, _ := y.List()
			spoil(told)
			lists(t, y, l...)
			if used > 0 {
				removes(t, y, l[len(l)-1].Key, true)
				l = l[:len(l)-1]
			}
			told, _ = y.List()
			spoil(told)
			lists(t, y, l...)
			hold(t, x, 0, padded(n, l...)...)
		}
	}
}

// R3: lists that were told stay as they are, whatever is done behind them.
func TestListsStay(t *testing.T) {
	y, x := alone(t, 5, keyed("b", "c", "d")...)
	told, _ := y.List()
	spare := append(told, has("mine", ""))
	puts(t, y, "a", "new")
	puts(t, y, "c", "other")
	removes(t, y, "d", true)
	puts(t, y, "x", "new")
	y.List()
	commits(t, x)
	if !slices.Equal(told, keyed("b", "c", "d")) || !slices.Equal(spare, append(keyed("b", "c", "d"), has("mine", ""))) {
		t.Fatal(told, spare)
	}
}

// R3: Right changes nothing of its list, nor of the spare room behind it.
func TestRightLeavesItsList(t *testing.T) {
	for _, l := range append(wrong(), keyed("a", "b", "c"), padded(5, keyed("a", "b")...), nil) {
		spare := append(slices.Clone(l), has("mine", ""), entry{Key: "mine"})
		same := slices.Clone(spare)
		first := table.Right(spare[:len(l)])
		if first != isRight(l) || table.Right(spare[:len(l)]) != first || !slices.Equal(spare, same) {
			t.Fatal(l, first, spare)
		}
	}
}

// R6: a list of none is empty: List of a table in which nothing is, and Right of it.
func TestListOfNone(t *testing.T) {
	y, _ := alone(t, 3)
	l, err := y.List()
	if len(l) != 0 || !table.Right(l) {
		t.Fatal(l, err)
	}
	spoil(append(l, nothing))
	lists(t, y)
}

// A table keeps nothing of the cells: what others write through the transaction is told, and a table that was no right one may be one again.
func TestNothingIsKept(t *testing.T) {
	y, x := alone(t, 3, keyed("a")...)
	gets(t, y, "a", "0")
	done(t, x.Write(0, has("b", "9")))
	lacks(t, y, "a")
	gets(t, y, "b", "9")
	next(t, y, "", has("b", "9"))
	done(t, x.Write(2, has("c", "9")))
	refuses(t, y, api.ErrState)
	done(t, x.Write(1, has("bb", "9")))
	lists(t, y, has("b", "9"), has("bb", "9"), has("c", "9"))
	done(t, x.Write(0, nothing), x.Write(1, nothing), x.Write(2, nothing))
	lists(t, y)
	puts(t, y, "z", "1")
	hold(t, x, 0, has("z", "1"), nothing, nothing)
}

// R4: what is asked again of another table is told again.
func TestSameAgain(t *testing.T) {
	run := func() (out []string) {
		c := chance{rand.New(rand.NewSource(9)), []string{"", "a", "ab", "b"}, 12, 6, 3}
		p := pair(t, func() *memory { return empty(t, c.cells) })
		w := p[0]
		for x := range 2 {
			w.xs, w.tables = append(w.xs, begun(t, w.m, x+1)), append(w.tables, nil)
			w.make(x, x, 3*x, 6)
		}
		for range 2000 {
			out = append(out, c.deed(w).does(w))
		}
		return append(out, whole(w.m, w.xs...))
	}
	if !slices.Equal(run(), run()) {
		t.Fatal("told otherwise")
	}
}
