package after_test

import (
	"fmt"
	"math"
	"runtime"
	"slices"
	"testing"
	"weak"

	"ledgerstone/after"
	"ledgerstone/api"
)

// spoil changes each entry of l, its spare room too.
func spoil(l []entry) {
	l = l[:cap(l)]
	for i := range l {
		l[i] = entry{-7 - int64(i), -9, "spoiled"}
	}
}

// R3: what Take told may be written over, its spare room too: no other list, and nothing that the queue tells or does, is changed by it.
func TestListsAreNew(t *testing.T) {
	for n := range 40 {
		q, same := after.New[string](), after.New[string]()
		for k := range n {
			for _, x := range []*queue{q, same} {
				puts(t, x, 1, fmt.Sprint("a", k))
				commits(t, x, 1, int64(k%5), 1)
				puts(t, x, 2, fmt.Sprint("b", k))
			}
		}
		var told [][]entry
		for version := range int64(5) {
			one, other := q.Take(version), same.Take(version)
			for _, l := range told {
				spoil(l)
				spoil(append(l, entry{}))
			}
			if !slices.Equal(one, other) {
				t.Fatal("two lists share memory", n, version, one, other)
			}
			told = append(told, one)
			spoil(one)
			for _, x := range []*queue{q, same} {
				puts(t, x, 3, "c", "d")
				commits(t, x, 3, 4, 2)
				backs(t, x, 2, n-1-int(version), min(1, max(0, n-int(version))))
			}
		}
		spoil(append(told[4], entry{}))
		takes(t, q, math.MaxInt64, same.Take(math.MaxInt64)...)
		commits(t, q, 2, 0, q.Mark(2))
		commits(t, same, 2, 0, same.Mark(2))
		takes(t, q, math.MaxInt64, same.Take(math.MaxInt64)...)
	}
}

// R3: lists that were told stay as they are, whatever is done behind them.
func TestListsStay(t *testing.T) {
	q := after.New[string]()
	puts(t, q, 1, "a", "b", "c")
	commits(t, q, 1, 3, 3)
	puts(t, q, 2, "d")
	commits(t, q, 2, 5, 1)
	l := q.Take(3)
	spare := append(l, entry{1, 1, "spare"})
	want := []entry{{3, 1, "a"}, {3, 1, "b"}, {3, 1, "c"}}
	for k := range 60 {
		puts(t, q, 1+k%3, "x", "y")
		commits(t, q, 2, int64(k%7), q.Mark(2))
		q.Drop(3)
		q.Take(int64(k % 5))
	}
	q.Take(math.MaxInt64)
	if !slices.Equal(l, want) || !slices.Equal(spare, append(want, entry{1, 1, "spare"})) {
		t.Fatal(l, spare)
	}
}

// R6: where nothing is told, the list is empty, and may be added to.
func TestListsOfNone(t *testing.T) {
	q := after.New[string]()
	for range 3 {
		l := q.Take(math.MaxInt64)
		if len(l) != 0 {
			t.Fatal(l)
		}
		spoil(append(l, entry{}, entry{}))
		length(t, q, 0, 0)
	}
	puts(t, q, 1, "a")
	spoil(q.Take(9))
	commits(t, q, 1, 3, 1)
	spoil(q.Take(2))
	takes(t, q, 3, entry{3, 1, "a"})
}

// R4: two queues that are asked the same tell the same.
func TestSameAgain(t *testing.T) {
	run := func() []string {
		c, q := newChance(3, 4, 6), after.New[int]()
		var out []string
		for step := range 3000 {
			out = append(out, c.step(step).do(q))
		}
		return append(out, whole(q, 4))
	}
	if !slices.Equal(run(), run()) {
		t.Fatal("told otherwise")
	}
}

// pair is what may be put off: a struct, with a list in it.
type pair struct {
	name string
	list []int
}

// holds puts off each of these, with alike telling whether two are so, and has them told.
func holds[A any](t *testing.T, alike func(a, b A) bool, actions ...A) {
	t.Helper()
	q := after.New[A]()
	n := len(actions)
	for k, a := range actions {
		puts(t, q, 1, a)
		puts(t, q, 2+k, a)
		puts(t, q, math.MaxInt, a, a)
	}
	length(t, q, 4*n, 0)
	tells(t, q.Later(0, actions[0]), api.ErrArg)
	marks(t, q, 1, n)
	backs(t, q, math.MaxInt, 1, 2*n-1)
	drops(t, q, math.MaxInt, 1)
	for k := range actions {
		commits(t, q, 2+k, int64(100-k), 1)
	}
	commits(t, q, 1, 3, n)
	length(t, q, 0, 2*n)
	is := func(l []after.Entry[A], version int64, owner int, want ...A) {
		t.Helper()
		if len(l) != len(want) {
			t.Fatal(l, "wanted", want)
		}
		for k, e := range l {
			if e.Version != version || e.Owner != owner || !alike(e.Action, want[k]) {
				t.Fatal(k, e, "wanted", version, owner, want[k])
			}
		}
	}
	is(q.Take(3), 3, 1, actions...)
	for k := n - 1; k >= 0; k-- {
		is(q.Take(int64(100-k)), int64(100-k), 2+k, actions[k])
	}
	is(q.Take(math.MaxInt64), 0, 0)
	length(t, q, 0, 0)
}

// equal is whether two actions are so.
func equal[A comparable](a, b A) bool { return a == b }

// Ways: queues are generic in their actions: numbers, texts, structs, arrays, nothing at all, any thing, queues, functions, and what can't be compared.
func TestQueuesOfAnyKind(t *testing.T) {
	holds(t, equal[int], 1, 0, -5, 1<<62)
	holds(t, equal[uint8], 255, 0, 1)
	holds(t, equal[string], "a", "", "\x00\xff")
	holds(t, equal[bool], true, false)
	holds(t, equal[[3]int], [3]int{1, 2, 3}, [3]int{})
	holds(t, equal[struct{}], struct{}{}, struct{}{})
	holds[any](t, equal[any], 1, "a", nil, api.ErrArg)
	holds[error](t, equal[error], api.ErrArg, nil)
	holds(t, equal[*pair], &pair{}, nil, &pair{name: "x"})
	holds(t, equal[*queue], after.New[string](), nil)
	holds(t, equal[entry], entry{1, 2, "a"}, entry{})
	sameFloat := func(a, b float64) bool { return math.Float64bits(a) == math.Float64bits(b) }
	holds(t, sameFloat, 1.5, math.NaN(), math.Copysign(0, -1), 0)
	samePair := func(a, b pair) bool { return a.name == b.name && slices.Equal(a.list, b.list) }
	holds(t, samePair, pair{"a", []int{1}}, pair{}, pair{"b", nil})
	holds(t, slices.Equal[[]byte], []byte("abc"), nil, []byte{}, []byte("d"))
	sameFunc := func(a, b func() int) bool { return (a == nil) == (b == nil) && (a == nil || a() == b()) }
	holds(t, sameFunc, func() int { return 1 }, nil, func() int { return 2 })
}

// R1: actions that are functions are handed back; the queue calls none of them.
func TestActionsAreNotCalled(t *testing.T) {
	q := after.New[func()]()
	never := func() { t.Fatal("called") }
	puts(t, q, 1, never, nil, never)
	puts(t, q, 2, never)
	commits(t, q, 1, 1, 3)
	drops(t, q, 2, 1)
	if l := q.Take(1); len(l) != 3 || l[0].Action == nil || l[1].Action != nil {
		t.Fatal(len(l))
	}
}

// R3: actions are handed on as they are: a list that was put off is the one that is told, with what has changed in it.
func TestActionsAreShared(t *testing.T) {
	q := after.New[[]byte]()
	b := []byte("abc")
	puts(t, q, 1, b)
	b[0] = 'x'
	commits(t, q, 1, 1, 1)
	l := q.Take(1)
	if len(l) != 1 || &l[0].Action[0] != &b[0] || string(b) != "xbc" {
		t.Fatal(l, b)
	}
}

// waits puts off as many new things as that with owner, and tells them weakly.
func waits(t *testing.T, q *after.Queue[*pair], owner, n int) []weak.Pointer[pair] {
	var out []weak.Pointer[pair]
	for range n {
		p := &pair{name: "p"}
		puts(t, q, owner, p)
		out = append(out, weak.Make(p))
	}
	return out
}

// What is told, dropped or gone by a Back is kept no more, behind no list's end either; what waits or is due is.
func TestNothingIsKept(t *testing.T) {
	q := after.New[*pair]()
	kept := waits(t, q, 1, 3)
	var gone []weak.Pointer[pair]
	gone = append(gone, waits(t, q, 2, 8)...)
	gone = append(gone, waits(t, q, 3, 8)...)
	gone = append(gone, waits(t, q, 1, 8)...)
	gone = append(gone, waits(t, q, 4, 8)...)
	kept = append(kept, waits(t, q, 5, 3)...)
	commits(t, q, 4, 3, 8)
	commits(t, q, 5, 4, 3)
	if len(q.Take(3)) != 8 {
		t.Fatal("not told")
	}
	drops(t, q, 2, 8)
	drops(t, q, 3, 8)
	backs(t, q, 1, 3, 8)
	for _, w := range gone {
		for tries := 0; w.Value() != nil; tries++ {
			if tries == 20 {
				t.Fatal("kept")
			}
			runtime.GC()
		}
	}
	for _, w := range kept {
		if w.Value() == nil {
			t.Fatal("gone")
		}
	}
	length(t, q, 3, 3)
}
