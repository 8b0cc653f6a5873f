package tl2_test

import (
	"math/rand"
	"slices"
	"testing"

	"ledgerstone/api"
	"ledgerstone/cell"
	"ledgerstone/tl2"
)

// spoil changes each number of l, its spare room too.
func spoil(l []int) {
	l = l[:cap(l)]
	for i := range l {
		l[i] = -7 - i
	}
}

// R3: the lists of Reads and Writes may be changed by who has them, their spare room too: no other list, and nothing that the transaction tells or does, is changed by it; behind each step of an end.
func TestListsAreNew(t *testing.T) {
	for n := range 12 {
		for at := range 2*n + 3 {
			build := func() pair {
				m := made[int](t, 40)
				p := pair{m, begun(t, m, 1)}
				for k := range n {
					reads(t, p.x, 3*k, 0)
				}
				for k := range n {
					done(t, p.x.Write(2*k, k+1))
				}
				for range at {
					p.x.Step()
				}
				return p
			}
			p, same := build(), build()
			before := p.whole()
			ask := []func() []int{p.x.Reads, p.x.Writes}
			wants := [][]int{same.x.Reads(), same.x.Writes()}
			for i := range ask {
				for j := range ask {
					first, second := ask[i](), ask[j]()
					spoil(first)
					spoil(append(first, 1))
					if !slices.Equal(second, wants[j]) {
						t.Fatal("two lists share memory", n, at, i, j)
					}
					spoil(second)
					if after := p.whole(); after != before {
						t.Fatal("not as it was:", before, after)
					}
				}
			}
			for p.x.Status() == tl2.Ending {
				p.x.Step()
				same.x.Step()
				spoil(p.x.Reads())
				spoil(p.x.Writes())
				if got, wanted := p.whole(), same.whole(); got != wanted {
					t.Fatal(n, at, got, wanted)
				}
			}
			if got, wanted := p.rest(), same.rest(); got != wanted {
				t.Fatal(n, at, got, wanted)
			}
		}
	}
}

// R3: lists that were told stay as they are, whatever is done behind them.
func TestListsStay(t *testing.T) {
	m := made[string](t, 10)
	x := begun(t, m, 1)
	reads(t, x, 9, "")
	reads(t, x, 7, "")
	done(t, x.Mark(), x.Write(1, "a"), x.Write(5, "b"), x.Write(3, "c"))
	written, seen := x.Writes(), x.Reads()
	spareWritten, spareSeen := append(written, 99), append(seen, 98)
	done(t, x.Write(2, "d"), x.Write(4, "d"), x.Undo(), x.Write(6, "e"))
	reads(t, x, 8, "")
	lists(t, x, []int{7, 8, 9}, []int{6})
	if status, err := ends(x); status != tl2.Done || err != api.OK {
		t.Fatal(status, err)
	}
	if !slices.Equal(written, []int{1, 3, 5}) || !slices.Equal(spareWritten, []int{1, 3, 5, 99}) {
		t.Fatal(written, spareWritten)
	}
	if !slices.Equal(seen, []int{7, 9}) || !slices.Equal(spareSeen, []int{7, 9, 98}) {
		t.Fatal(seen, spareSeen)
	}
}

// R4: two worlds that are asked the same tell the same.
func TestSameAgain(t *testing.T) {
	run := func() []string {
		c := chance{rand.New(rand.NewSource(5)), 6, 4, true}
		w := realWorld(t, c.cells, c.places, 0)
		var out []string
		for at := range 3000 {
			out = append(out, c.call(w, at).do(w))
			if at%50 == 0 {
				out = append(out, w.whole())
			}
		}
		return out
	}
	if !slices.Equal(run(), run()) {
		t.Fatal("told otherwise")
	}
}

// thing is what a cell may hold: a struct, with a list in it.
type thing struct {
	name string
	list []int
}

// holds has transactions write each of these values, and others read them, with alike telling whether two are so.
func holds[T any](t *testing.T, alike func(a, b T) bool, values ...T) {
	t.Helper()
	m := made[T](t, 2)
	is := func(x *tl2.Tx[T], i int, want T) {
		t.Helper()
		if got, err := x.Read(i); !alike(got, want) || err != api.OK {
			t.Fatal(i, got, err, "wanted", want)
		}
	}
	var nothing T
	old := nothing
	for _, v := range values {
		x := begun(t, m, 1)
		is(x, 0, old)
		is(x, 1, nothing)
		done(t, x.Write(0, v), x.Mark(), x.Write(0, nothing), x.Write(1, v))
		is(x, 0, nothing)
		is(x, 1, v)
		done(t, x.Undo())
		is(x, 0, v)
		if got, ok := x.Value(0); !alike(got, v) || !ok {
			t.Fatal(got, ok, "wanted", v)
		}
		if got, ok := x.Value(1); !alike(got, nothing) || ok {
			t.Fatal(got, ok)
		}
		goesOn(t, x, 4)
		steps(t, x, tl2.Done)
		y := begun(t, m, 2)
		is(y, 0, v)
		for _, i := range []int{-1, 2} {
			if got, err := y.Read(i); !alike(got, nothing) || err != api.ErrArg {
				t.Fatal(i, got, err)
			}
		}
		done(t, m.Lock(1, 5))
		if got, err := y.Read(1); !alike(got, nothing) || err != api.ErrStale {
			t.Fatal(got, err)
		}
		done(t, m.Unlock(1, 5))
		old = v
	}
}

// equal is whether two values are so.
func equal[T comparable](a, b T) bool { return a == b }

// Ways: transactions are generic in what cells hold: numbers, texts, structs, arrays, nothing at all, any thing, memories, transactions, and what can't be compared.
func TestTransactionsOfAnyKind(t *testing.T) {
	holds(t, equal[int], 1, 0, -5, 1<<62)
	holds(t, equal[uint8], 255, 0, 1)
	holds(t, equal[string], "a", "", "\x00\xff")
	holds(t, equal[bool], true, false)
	holds(t, equal[[3]int], [3]int{1, 2, 3}, [3]int{})
	holds(t, equal[struct{}], struct{}{}, struct{}{})
	holds[any](t, equal[any], 1, "a", nil, api.ErrArg)
	holds(t, equal[*thing], &thing{}, nil, &thing{name: "x"})
	holds(t, equal[*cell.Memory[int]], made[int](t, 1), nil)
	holds(t, equal[*tl2.Tx[int]], begun(t, made[int](t, 1), 1), nil)
	sameThing := func(a, b thing) bool { return a.name == b.name && slices.Equal(a.list, b.list) }
	holds(t, sameThing, thing{"a", []int{1}}, thing{}, thing{"b", nil})
	holds(t, slices.Equal[[]byte], []byte("abc"), nil, []byte{}, []byte("d"))
	sameFunc := func(a, b func() int) bool { return (a == nil) == (b == nil) && (a == nil || a() == b()) }
	holds(t, sameFunc, func() int { return 1 }, nil, func() int { return 2 })
}

// R3: the values of cells are shared: a list that is written is the one that others read.
func TestValuesAreShared(t *testing.T) {
	m := made[[]byte](t, 1)
	list := []byte("abc")
	x := begun(t, m, 1)
	done(t, x.Write(0, list))
	own, _ := x.Read(0)
	value, _ := x.Value(0)
	ends(x)
	got, _ := begun(t, m, 2).Read(0)
	for k, l := range [][]byte{own, value, got} {
		if len(l) != 3 || &l[0] != &list[0] {
			t.Fatal(k, l)
		}
	}
	if string(list) != "abc" {
		t.Fatal(list)
	}
}

// A transaction shares the memory that it was handed: what is done to that is seen, and what it does is seen there.
func TestMemoryIsShared(t *testing.T) {
	m := made[int](t, 2)
	x := begun(t, m, 1)
	done(t, m.Fill(0, 5))
	reads(t, x, 0, 5)
	done(t, x.Write(1, 6))
	ends(x)
	has(t, m, 1, 6, 1, 0)
}
