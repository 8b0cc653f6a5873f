package cell_test

import (
	"slices"
	"testing"

	"ledgerstone/api"
	"ledgerstone/cell"
)

// spoil changes each number of l, its spare room too.
func spoil(l []int) {
	l = l[:cap(l)]
	for i := range l {
		l[i] = -7 - i
	}
}

// R3: the lists of Owned may be changed by who has them, their spare room too: no other list, and nothing that the memory tells or does, is changed by it.
func TestListsAreNew(t *testing.T) {
	for n := 1; n <= 40; n++ {
		m := made[int](t, 2*n)
		var even, odd []int
		for i := range 2 * n {
			done(t, m.Fill(i, 100+i), m.Lock(i, 1+i%2))
			if i%2 == 0 {
				even = append(even, i)
			} else {
				odd = append(odd, i)
			}
		}
		before := whole(m)
		wants := [][]int{even, odd}
		for i := range wants {
			for j := range wants {
				first, second := m.Owned(1+i), m.Owned(1+j)
				spoil(first)
				spoil(append(first, 1))
				if !slices.Equal(second, wants[j]) {
					t.Fatal("two lists share memory", n, i, j)
				}
				if after := whole(m); after != before {
					t.Fatal("not as it was:", before, after)
				}
			}
		}
		advances(t, m, 1)
		for _, i := range even {
			spoil(m.Owned(1))
			done(t, m.Publish(i, 1, 200+i, 1))
		}
		owns(t, m, 1)
		owns(t, m, 2, odd...)
	}
}

// R3: lists that were told stay as they are, whatever is done behind them.
func TestListsStay(t *testing.T) {
	m := made[string](t, 6)
	done(t, m.Lock(1, 4), m.Lock(3, 4), m.Lock(5, 4), m.Lock(0, 9))
	list, none := m.Owned(4), m.Owned(5)
	spare := append(list, 99)
	done(t, m.Lock(2, 4), m.Unlock(3, 4), m.Lock(3, 5), m.Unlock(0, 9), m.Lock(0, 4))
	owns(t, m, 4, 0, 1, 2, 5)
	if !slices.Equal(list, []int{1, 3, 5}) || !slices.Equal(spare, []int{1, 3, 5, 99}) || len(none) != 0 {
		t.Fatal(list, spare, none)
	}
}

// R2, R6: where there are none, the list is empty, and may be changed too.
func TestListsOfNone(t *testing.T) {
	m := made[int](t, 4)
	for _, owner := range []int{-1, 0, 1, 2} {
		l := m.Owned(owner)
		if len(l) != 0 {
			t.Fatal(owner, l)
		}
		spoil(append(l, 1))
		owns(t, m, owner)
	}
	done(t, m.Lock(2, 2))
	owns(t, m, 2, 2)
}

// R4: two memories that are asked the same tell the same.
func TestSameAgain(t *testing.T) {
	run := func() []string {
		m := made[int](t, 3)
		var out []string
		for k := range 2000 {
			i, owner := k*k%7-1, k*k*k%5-1
			out = append(out, fill(i, k).do(m), lock(i, owner).do(m), publish(i, owner, k, int64(k%90)).do(m), unlock(k%4, k%3).do(m), owned(owner).do(m), load(i).do(m))
			if k%20 == 0 {
				out = append(out, advance().do(m), whole(m))
			}
		}
		return out
	}
	if !slices.Equal(run(), run()) {
		t.Fatal("told otherwise")
	}
}

// pair is what a cell may hold: a struct, with a list in it.
type pair struct {
	name string
	list []int
}

// holds has one cell after the other hold each of these values, by Fill and by Publish, with same telling whether two are so.
func holds[T any](t *testing.T, same func(a, b T) bool, values ...T) {
	t.Helper()
	m := made[T](t, 2)
	is := func(i int, want T, version int64, owner int) {
		t.Helper()
		v, gotVersion, gotOwner, err := m.Load(i)
		if !same(v, want) || gotVersion != version || gotOwner != owner || err != api.OK {
			t.Fatal(i, v, gotVersion, gotOwner, err, "wanted", want, version, owner)
		}
	}
	var nothing T
	is(0, nothing, 0, 0)
	is(1, nothing, 0, 0)
	for _, v := range values {
		done(t, m.Fill(0, v))
		is(0, v, 0, 0)
		is(1, nothing, 0, 0)
	}
	for k, v := range values {
		version := int64(k + 1)
		advances(t, m, version)
		done(t, m.Lock(1, 5), m.Publish(1, 5, v, version))
		is(1, v, version, 0)
		tells(t, m.Fill(1, nothing), api.ErrStale)
		done(t, m.Lock(1, 6))
		is(1, v, version, 6)
		done(t, m.Unlock(1, 6))
	}
	is(0, values[len(values)-1], 0, 0)
	for _, i := range []int{-1, 2} {
		if v, version, owner, err := m.Load(i); !same(v, nothing) || version != 0 || owner != 0 || err != api.ErrArg {
			t.Fatal(i, v, version, owner, err)
		}
	}
}

// equal is whether two values are so.
func equal[T comparable](a, b T) bool { return a == b }

// Ways: memories are generic in what their cells hold: numbers, texts, structs, arrays, nothing at all, any thing, memories, and what can't be compared.
func TestMemoriesOfAnyKind(t *testing.T) {
	holds(t, equal[int], 1, 0, -5, 1<<62)
	holds(t, equal[uint8], 255, 0, 1)
	holds(t, equal[string], "a", "", "\x00\xff")
	holds(t, equal[bool], true, false)
	holds(t, equal[[3]int], [3]int{1, 2, 3}, [3]int{})
	holds(t, equal[struct{}], struct{}{}, struct{}{})
	holds[any](t, equal[any], 1, "a", nil, api.ErrArg)
	holds(t, equal[*pair], &pair{}, nil, &pair{name: "x"})
	holds(t, equal[*cell.Memory[int]], made[int](t, 1), nil)
	samePair := func(a, b pair) bool { return a.name == b.name && slices.Equal(a.list, b.list) }
	holds(t, samePair, pair{"a", []int{1}}, pair{}, pair{"b", nil})
	holds(t, slices.Equal[[]byte], []byte("abc"), nil, []byte{}, []byte("d"))
	sameFunc := func(a, b func() int) bool { return (a == nil) == (b == nil) && (a == nil || a() == b()) }
	holds(t, sameFunc, func() int { return 1 }, nil, func() int { return 2 })
}

// R3: the values of cells are shared: a list that a cell holds is the one that was handed in.
func TestValuesAreShared(t *testing.T) {
	m := made[[]byte](t, 1)
	one, two := []byte("abc"), []byte("xyz")
	done(t, m.Fill(0, one))
	got, _, _, _ := m.Load(0)
	again, _, _, _ := m.Load(0)
	if &got[0] != &one[0] || &again[0] != &one[0] || string(one) != "abc" {
		t.Fatal(got, again, one)
	}
	advances(t, m, 1)
	done(t, m.Lock(0, 1), m.Publish(0, 1, two, 1))
	got, _, _, _ = m.Load(0)
	if &got[0] != &two[0] || string(one) != "abc" || string(two) != "xyz" {
		t.Fatal(got, one, two)
	}
}

// R3: a value that is no list or pointer is a copy: who changes it changes no cell.
func TestPlainValuesAreCopies(t *testing.T) {
	m := made[[2]int](t, 1)
	v := [2]int{1, 2}
	done(t, m.Fill(0, v))
	v[0] = 9
	got, _, _, _ := m.Load(0)
	got[1] = 9
	has(t, m, 0, [2]int{1, 2}, 0, 0)
}
