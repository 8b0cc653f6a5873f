package wait_test

import (
	"fmt"
	"math/rand"
	"slices"
	"testing"

	"ledgerstone/api"
	"ledgerstone/cell"
	"ledgerstone/tl2"
	"ledgerstone/wait"
)

// spoil changes each number of l, its spare room too.
func spoil(l []int) {
	l = l[:cap(l)]
	for i := range l {
		l[i] = -7 - i
	}
}

// R3: the lists may be changed by who has them, their spare room too: no other list, and nothing that the watch tells or does, is changed by it.
func TestListsAreNew(t *testing.T) {
	for n := 1; n <= 64; n++ {
		w, m := full(t, n)
		all, odd, even := upTo(1, n, 1), upTo(1, n, 2), upTo(2, n, 2)
		first, second := w.Parked(), w.Parked()
		spoil(first)
		spoil(append(first, 1))
		if !slices.Equal(second, all) {
			t.Fatal("two lists share memory", n, second)
		}
		parked(t, w, all...)
		publishes(t, m, 1)
		told := w.Changed()
		left := w.Parked()
		spoil(told)
		if !slices.Equal(left, odd) {
			t.Fatal("two lists share memory", n, left)
		}
		publishes(t, m, 0)
		again := w.Changed()
		spoil(left)
		spoil(told)
		if !slices.Equal(again, odd) {
			t.Fatal("two lists share memory", n, again)
		}
		spoil(again)
		parked(t, w)
		for _, id := range even {
			parks(t, w, id, begun(t, m, 0))
		}
		publishes(t, m, 0)
		changed(t, w, even...)
	}
}

// R3: lists that were told stay as they are, whatever is done behind them.
func TestListsStay(t *testing.T) {
	w, m := full(t, 6)
	all := w.Parked()
	publishes(t, m, 1)
	told := w.Changed()
	spareAll, spareTold := append(all, 99), append(told, 99)
	for id := 1; id <= 60; id++ {
		w.Park(id, begun(t, m, id%2))
		w.Parked()
	}
	publishes(t, m, 0, 1)
	w.Changed()
	if !slices.Equal(all, []int{1, 2, 3, 4, 5, 6}) || !slices.Equal(told, []int{2, 4, 6}) {
		t.Fatal(all, told)
	}
	if !slices.Equal(spareAll, []int{1, 2, 3, 4, 5, 6, 99}) || !slices.Equal(spareTold, []int{2, 4, 6, 99}) {
		t.Fatal(spareAll, spareTold)
	}
}

// R2, R6: where there are none, the lists are empty.
func TestListsOfNone(t *testing.T) {
	w := watch(t, empty[int](t, 1))
	for _, l := range [][]int{w.Parked(), w.Changed()} {
		if len(l) != 0 {
			t.Fatal(l)
		}
		spoil(append(l, 1))
	}
	parked(t, w)
	changed(t, w)
}

// R3: what is handed in is not changed: a transaction and its memory tell behind Park, and behind all that a watch does, what they told ahead.
func TestTransactionStays(t *testing.T) {
	for name, end := range ends() {
		m := filled(t, 10, 11, 12, 13)
		w := watch(t, m)
		x := begun(t, m, 0, 2)
		done(t, x.Write(1, 5), x.Mark(), x.Write(3, 6))
		end(t, x)
		before := whole(x) + wholeMemory(m)
		parks(t, w, 1, x)
		tells(t, w.Park(1, x), api.ErrBusy)
		tells(t, w.Park(0, x), api.ErrArg)
		changed(t, w)
		parked(t, w, 1)
		forgets(t, w, 1, true)
		if after := whole(x) + wholeMemory(m); after != before {
			t.Fatal(name, "not as it was:", before, after)
		}
	}
}

// wholeMemory is all that a memory tells.
func wholeMemory(m *cell.Memory[int]) string {
	out := fmt.Sprintln(m.Clock())
	for i := range m.Size() {
		out += fmt.Sprintln(m.Load(i))
	}
	return out
}

// thing is what a cell may hold: a struct, with a list in it.
type thing struct {
	name string
	list []int
}

// holds has a watch, and OrElse, do what they do with cells that hold v.
func holds[T any](t *testing.T, v T) {
	t.Helper()
	m := filled(t, v, v, v)
	w := watch(t, m)
	if !w.Made() {
		t.Fatal("not made")
	}
	x := begun(t, m, 0)
	write := func(i int, err api.Errno) body {
		return func() api.Errno {
			done(t, x.Write(i, v))
			return err
		}
	}
	tells(t, wait.OrElse(x, write(1, api.ErrWait), write(2, api.OK)), api.OK)
	writes(t, x, 2)
	tells(t, wait.OrElse(x, write(1, api.ErrWait), write(0, api.ErrWait)), api.ErrWait)
	writes(t, x, 2)
	parks(t, w, 5, x)
	parks(t, w, 3, begun(t, m, 2, 1))
	parked(t, w, 3, 5)
	changed(t, w)
	steps(t, x, 4, tl2.Done)
	changed(t, w, 3)
	publishes(t, m, 0)
	changed(t, w, 5)
	parked(t, w)
}

// Ways: watches and OrElse are generic in what cells hold: numbers, texts, structs, arrays, nothing at all, any thing, watches, and what can't be compared.
func TestWatchesOfAnyKind(t *testing.T) {
	holds(t, -2)
	holds(t, uint8(255))
	holds(t, "\x00\xff")
	holds(t, true)
	holds(t, [3]int{1, 2, 3})
	holds(t, struct{}{})
	holds[any](t, "a")
	holds[any](t, nil)
	holds(t, &thing{name: "x"})
	holds(t, thing{"a", []int{1}})
	holds(t, []byte("abc"))
	holds[[]byte](t, nil)
	holds(t, map[string]int{"a": 1})
	holds(t, func() int { return 1 })
	holds(t, watch(t, empty[int](t, 1)))
}

// R4: what is asked again of another watch is told again, in whatever order a map is gone through.
func TestSameAgain(t *testing.T) {
	run := func() (out []string) {
		for seed := range int64(10) {
			s := newScene(t, 5, 3)
			c := chance{rand.New(rand.NewSource(seed)), upTo(1, 70, 1)}
			for range 300 {
				c.move(s)
			}
			out = append(out, s.log...)
			w, m := full(t, 64)
			publishes(t, m, int(seed)%2)
			out = append(out, fmt.Sprint(w.Parked(), w.Changed(), w.Parked()))
		}
		return out
	}
	if first := run(); len(first) < 1000 || !slices.Equal(first, run()) {
		t.Fatal("told otherwise", len(first))
	}
}
