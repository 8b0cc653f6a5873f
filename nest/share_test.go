package nest_test

import (
	"math/rand"
	"slices"
	"testing"

	"ledgerstone/api"
	"ledgerstone/cell"
	"ledgerstone/nest"
	"ledgerstone/tl2"
)

// thing is what a cell may hold: a struct, with a list in it.
type thing struct {
	name string
	list []int
}

// holds has scopes in a transaction write a and b, with alike telling whether two are so.
func holds[T any](t *testing.T, alike func(a, b T) bool, a, b T) {
	t.Helper()
	var nothing T
	x := begun(t, filled(t, a, nothing))
	is := func(i int, want T) {
		t.Helper()
		if got, err := x.Read(i); !alike(got, want) || err != api.OK {
			t.Fatal(i, got, err, "wanted", want)
		}
	}
	write := func(i int, v T, err api.Errno) body {
		return func() api.Errno {
			done(t, x.Write(i, v))
			return err
		}
	}
	tells(t, nest.Scope(x, write(0, b, api.ErrArg)), api.ErrArg)
	is(0, a)
	done(t, nest.Scope(x, write(1, a, api.OK)))
	is(1, a)
	n, err := nest.All(x, write(0, b, api.OK), write(1, b, api.ErrIO))
	counts(t, n, err, 1, api.ErrIO)
	is(0, a)
	is(1, a)
	n, err = nest.All(x, write(0, b, api.OK), write(1, nothing, api.OK))
	counts(t, n, err, 2, api.OK)
	is(0, b)
	is(1, nothing)
	n, err = nest.First(x, write(0, nothing, api.ErrIO), write(1, b, api.OK))
	counts(t, n, err, 1, api.OK)
	is(0, b)
	is(1, b)
}

// equal is whether two values are so.
func equal[T comparable](a, b T) bool { return a == b }

// Ways: calls are generic in what cells hold: numbers, texts, structs, arrays, nothing at all, any thing, transactions, and what can't be compared.
func TestTransactionsOfAnyKind(t *testing.T) {
	holds(t, equal[int], 1, -2)
	holds(t, equal[uint8], 255, 1)
	holds(t, equal[string], "a", "\x00\xff")
	holds(t, equal[bool], true, false)
	holds(t, equal[[3]int], [3]int{1, 2, 3}, [3]int{4})
	holds(t, equal[struct{}], struct{}{}, struct{}{})
	holds[any](t, equal[any], 1, "a")
	holds(t, equal[*thing], &thing{}, &thing{name: "x"})
	holds(t, equal[*tl2.Tx[int]], over(t, 1), nil)
	holds(t, func(a, b thing) bool { return a.name == b.name && slices.Equal(a.list, b.list) }, thing{"a", []int{1}}, thing{"b", nil})
	holds(t, slices.Equal[[]byte], []byte("abc"), []byte("d"))
	sameFunc := func(a, b func() int) bool { return (a == nil) == (b == nil) && (a == nil || a() == b()) }
	holds(t, sameFunc, func() int { return 1 }, func() int { return 2 })
}

// R3: the list of bodies is not changed, nor kept, nor its spare room: what is done to it behind a call changes nothing.
func TestBodiesStay(t *testing.T) {
	for _, call := range []func(x *tl2.Tx[int], l ...body) (int, api.Errno){nest.All[int], nest.First[int]} {
		x := over(t, 10)
		var called []int
		room := make([]body, 0, 6)
		for k := range 4 {
			room = append(room, func() api.Errno {
				called = append(called, k)
				return api.OK
			})
		}
		room = room[:6]
		call(x, room[:3]...)
		if room[4] != nil || room[5] != nil {
			t.Fatal("spare room was changed")
		}
		called = nil
		for _, b := range room[:4] {
			done(t, b())
		}
		if !slices.Equal(called, []int{0, 1, 2, 3}) {
			t.Fatal(called)
		}
		before := whole(x)
		called = nil
		clear(room)
		if n, err := call(x, room[:2]...); err != api.ErrNil || len(called) != 0 {
			t.Fatal(n, err, called)
		}
		if after := whole(x); after != before {
			t.Fatal("not as it was:", before, after)
		}
	}
}

// R4: what is asked again of another transaction is told again.
func TestSameAgain(t *testing.T) {
	run := func() (out []string) {
		for seed := range int64(300) {
			c := chance{rand.New(rand.NewSource(seed)), seed%2 == 0}
			var deeds []deed
			for range 5 {
				deeds = append(deeds, c.deed(8))
			}
			out = append(out, runs(newReal(t), deeds)...)
		}
		return out
	}
	if first := run(); len(first) < 1000 || !slices.Equal(first, run()) {
		t.Fatal("told otherwise", len(first))
	}
}

// Two transactions do not touch one another: a body may do things with another one, in scopes of its own.
func TestScopesOfTwo(t *testing.T) {
	m := filled(t, 10, 11)
	x := begun(t, m)
	y, err := tl2.Begin(m, 2)
	done(t, err)
	tells(t, nest.Scope(x, func() api.Errno {
		done(t, x.Write(0, 20), nest.Scope(y, func() api.Errno {
			if x.Depth() != 1 || y.Depth() != 1 {
				t.Fatal(x.Depth(), y.Depth())
			}
			return y.Write(1, 21)
		}))
		return api.ErrIO
	}), api.ErrIO)
	if len(x.Writes()) != 0 || !slices.Equal(y.Writes(), []int{1}) {
		t.Fatal(x.Writes(), y.Writes())
	}
	text, errText := cell.New[string](1)
	done(t, errText)
	z, errZ := tl2.Begin(text, 1)
	done(t, errZ)
	n, errAll := nest.All(z, func() api.Errno { return z.Write(0, "a") }, func() api.Errno {
		_, err := nest.First(x, says(api.ErrFull), writes(t, x, 1, 5, api.ErrNil))
		return err
	})
	counts(t, n, errAll, 1, api.ErrNil)
	if len(z.Writes()) != 0 || z.Depth() != 0 || x.Depth() != 0 {
		t.Fatal(z.Writes(), z.Depth(), x.Depth())
	}
}
