package sets_test

import (
	"math"
	"math/rand"
	"slices"
	"testing"

	"ledgerstone/api"
	"ledgerstone/sets"
)

// P15.3: Reads and Writes of none, of one, of many, put in rising, falling and by chance: they are told rising.
func TestListsRise(t *testing.T) {
	for n := range 257 {
		cells := rand.New(rand.NewSource(int64(n))).Perm(1024)[:n]
		sorted := slices.Sorted(slices.Values(cells))
		falling := slices.Clone(sorted)
		slices.Reverse(falling)
		for _, order := range [][]int{cells, sorted, falling} {
			s := sets.New[int]()
			for k, i := range order {
				done(t, s.Read(i, int64(k)), s.Write(order[n-1-k], k))
			}
			for range 2 {
				reads(t, s, sorted...)
				writes(t, s, sorted...)
			}
		}
	}
}

// P15.3: reads and writes are told apart, and each cell once, however often it was read and written.
func TestListsAreApart(t *testing.T) {
	s := sets.New[int]()
	reads(t, s)
	writes(t, s)
	done(t, s.Read(1023, 1), s.Read(1023, 1), s.Write(5, 0), s.Write(5, 1), s.Write(5, 1))
	reads(t, s, 1023)
	writes(t, s, 5)
	done(t, s.Read(0, 1), s.Write(1023, 2), s.Mark(), s.Write(5, 3), s.Write(0, 3), s.Read(7, 0))
	reads(t, s, 0, 7, 1023)
	writes(t, s, 0, 5, 1023)
	done(t, s.Undo())
	reads(t, s, 0, 7, 1023)
	writes(t, s, 5, 1023)
}

// spoil changes each number of l, its spare room too.
func spoil(l []int) {
	l = l[:cap(l)]
	for i := range l {
		l[i] = -7 - i
	}
}

// R3: the lists of Reads and Writes may be changed by who has them, their spare room too: no other list, and nothing that the sets tell or do, is changed by it.
func TestListsAreNew(t *testing.T) {
	for n := range 40 {
		s, same := sets.New[int](), sets.New[int]()
		for _, x := range []*sets.Sets[int]{s, same} {
			for k := range n {
				done(t, x.Read(3*k, 5), x.Write(2*k, k))
			}
			done(t, x.Mark(), x.Write(100, 1), x.Mark())
		}
		before := whole(s, 200)
		ask := []func() []int{s.Reads, s.Writes}
		wants := [][]int{s.Reads(), s.Writes()}
		for i := range ask {
			for j := range ask {
				first, second := ask[i](), ask[j]()
				spoil(first)
				spoil(append(first, 1))
				if !slices.Equal(second, wants[j]) {
					t.Fatal("two lists share memory", n, i, j)
				}
				spoil(second)
				if after := whole(s, 200); after != before {
					t.Fatal("not as it was:", before, after)
				}
			}
		}
		for _, x := range []*sets.Sets[int]{s, same} {
			done(t, x.Write(101, 2), x.Read(101, 2), x.Keep())
		}
		spoil(s.Reads())
		spoil(s.Writes())
		if got, wanted := scopes(s, 200), scopes(same, 200); got != wanted {
			t.Fatal(n, got, wanted)
		}
	}
}

// R3: lists that were told stay as they are, whatever is done behind them.
func TestListsStay(t *testing.T) {
	s := sets.New[string]()
	done(t, s.Mark(), s.Write(1, "a"), s.Write(5, "b"), s.Write(3, "c"), s.Read(9, 0), s.Read(7, 0))
	written, seen := s.Writes(), s.Reads()
	spareWritten, spareSeen := append(written, 99), append(seen, 98)
	done(t, s.Write(2, "d"), s.Write(4, "d"), s.Read(8, 0), s.Undo(), s.Write(6, "e"))
	writes(t, s, 6)
	reads(t, s, 7, 8, 9)
	if !slices.Equal(written, []int{1, 3, 5}) || !slices.Equal(spareWritten, []int{1, 3, 5, 99}) {
		t.Fatal(written, spareWritten)
	}
	if !slices.Equal(seen, []int{7, 9}) || !slices.Equal(spareSeen, []int{7, 9, 98}) {
		t.Fatal(seen, spareSeen)
	}
}

// R4: two sets that are asked the same tell the same.
func TestSameAgain(t *testing.T) {
	run := func() []string {
		c, s := newChance(5, 20, true), sets.New[int]()
		var out []string
		for step := range 3000 {
			out = append(out, c.step(step).do(s))
			if step%50 == 0 {
				out = append(out, whole(s, 1024))
			}
		}
		return append(out, scopes(s, 1024))
	}
	if !slices.Equal(run(), run()) {
		t.Fatal("told otherwise")
	}
}

// pair is what may be written: a struct, with a list in it.
type pair struct {
	name string
	list []int
}

// holds has cells be written with each of these values, in scopes that are undone and kept, with alike telling whether two are so.
func holds[T any](t *testing.T, alike func(a, b T) bool, values ...T) {
	t.Helper()
	s := sets.New[T]()
	is := func(i int, want T, wantOk bool) {
		t.Helper()
		if got, ok := s.Value(i); !alike(got, want) || ok != wantOk {
			t.Fatal(i, got, ok, "wanted", want, wantOk)
		}
	}
	var nothing T
	is(0, nothing, false)
	for k, v := range values {
		done(t, s.Write(0, v), s.Read(k, 3), s.Mark(), s.Write(1, v), s.Mark(), s.Write(0, nothing), s.Write(2, v))
		is(0, nothing, true)
		is(1, v, true)
		is(2, v, true)
		done(t, s.Undo())
		is(0, v, true)
		is(1, v, true)
		is(2, nothing, false)
		done(t, s.Keep(), s.Mark(), s.Write(1, nothing), s.Write(1023, v), s.Keep())
		is(1, nothing, true)
		is(1023, v, true)
		is(-1, nothing, false)
		is(1024, nothing, false)
		tells(t, s.Write(1024, v), api.ErrArg)
		tells(t, s.Read(k, 4), api.ErrStale)
	}
	writes(t, s, 0, 1, 1023)
}

// equal is whether two values are so.
func equal[T comparable](a, b T) bool { return a == b }

// Ways: sets are generic in their values: numbers, texts, structs, arrays, nothing at all, any thing, sets, and what can't be compared.
func TestSetsOfAnyKind(t *testing.T) {
	holds(t, equal[int], 1, 0, -5, 1<<62)
	holds(t, equal[uint8], 255, 0, 1)
	holds(t, equal[string], "a", "", "\x00\xff")
	holds(t, equal[bool], true, false)
	holds(t, equal[[3]int], [3]int{1, 2, 3}, [3]int{})
	holds(t, equal[struct{}], struct{}{}, struct{}{})
	holds[any](t, equal[any], 1, "a", nil, api.ErrArg)
	holds(t, equal[*pair], &pair{}, nil, &pair{name: "x"})
	holds(t, equal[*sets.Sets[int]], sets.New[int](), nil)
	sameFloat := func(a, b float64) bool { return math.Float64bits(a) == math.Float64bits(b) }
	holds(t, sameFloat, 1.5, math.NaN(), math.Copysign(0, -1), 0)
	samePair := func(a, b pair) bool { return a.name == b.name && slices.Equal(a.list, b.list) }
	holds(t, samePair, pair{"a", []int{1}}, pair{}, pair{"b", nil})
	holds(t, slices.Equal[[]byte], []byte("abc"), nil, []byte{}, []byte("d"))
	sameFunc := func(a, b func() int) bool { return (a == nil) == (b == nil) && (a == nil || a() == b()) }
	holds(t, sameFunc, func() int { return 1 }, nil, func() int { return 2 })
}

// R3: the values of cells are shared: a list that was written is the one that was handed in, behind an Undo too.
func TestValuesAreShared(t *testing.T) {
	s := sets.New[[]byte]()
	one, two := []byte("abc"), []byte("xyz")
	is := func(want []byte) {
		t.Helper()
		for range 2 {
			if got, ok := s.Value(0); !ok || &got[0] != &want[0] || len(got) != 3 {
				t.Fatal(got, ok)
			}
		}
	}
	done(t, s.Write(0, one), s.Mark())
	is(one)
	done(t, s.Write(0, two))
	is(two)
	done(t, s.Undo())
	is(one)
	if string(one) != "abc" || string(two) != "xyz" {
		t.Fatal(one, two)
	}
}

// R3: a value that is no list or pointer is a copy: who changes it changes no write.
func TestPlainValuesAreCopies(t *testing.T) {
	s := sets.New[[2]int]()
	v := [2]int{1, 2}
	done(t, s.Write(0, v), s.Mark())
	v[0] = 9
	got, _ := s.Value(0)
	got[1] = 9
	has(t, s, 0, [2]int{1, 2})
	done(t, s.Write(0, v), s.Undo())
	has(t, s, 0, [2]int{1, 2})
}
