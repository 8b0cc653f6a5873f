package sched_test

import (
	"slices"
	"testing"

	"ledgerstone/sched"
)

// spoil changes each number of l, its spare room too.
func spoil(l []int) {
	l = l[:cap(l)]
	for i := range l {
		l[i] = -7 - i
	}
}

// R3: the lists may be changed by who has them, their spare room too: no other list, and nothing that the sched tells or does, is changed by it.
func TestListsAreNew(t *testing.T) {
	for n := 1; n <= 32; n++ {
		s := sched.New()
		for id := 1; id <= 2*n; id++ {
			add(t, s, id, always(sched.Ready+sched.Status(id%2)))
		}
		for range 2 * n {
			s.Pick(0)
		}
		var line, blocked []int
		for id := 1; id <= 2*n; id += 2 {
			blocked = append(blocked, id)
			line = append(line, id+1)
		}
		ways := []func() []int{s.Ready, s.Blocked}
		wants := [][]int{line, blocked}
		for i := range ways {
			for j := range ways {
				first, second := ways[i](), ways[j]()
				spoil(first)
				spoil(append(first, 1))
				if !slices.Equal(second, wants[j]) {
					t.Fatal("two lists share memory", n, i, j)
				}
				lists(t, s, line, blocked, n)
			}
		}
		for id := 1; id <= 2*n; id++ {
			has(t, s, id, sched.Ready+sched.Status(id%2), 1, n)
		}
		for _, id := range line {
			picks(t, s, 0, id, sched.Ready, n)
		}
		for _, id := range blocked {
			wakes(t, s, id, true, n)
			spoil(s.Ready())
		}
		lists(t, s, append(line, blocked...), nil, n)
	}
}

// R3: the same within a Step.
func TestListsAreNewWithinAStep(t *testing.T) {
	s := mixedSched(t)
	add(t, s, 6, act(func() sched.Status {
		ready, blocked := s.Ready(), s.Blocked()
		spoil(ready)
		spoil(blocked)
		lists(t, s, []int{1, 4}, []int{2, 5})
		wakes(t, s, 2, true)
		spoil(s.Ready())
		return sched.Ready
	}))
	picks(t, s, 2, 6, sched.Ready)
	lists(t, s, []int{1, 4, 2, 6}, []int{5})
}

// R3: lists that were told stay as they are, whatever is done behind them.
func TestListsStay(t *testing.T) {
	s := mixedSched(t)
	ready, blocked := s.Ready(), s.Blocked()
	spareReady, spareBlocked := append(ready, 99), append(blocked, 99)
	for i := range 20 {
		s.Wake(2 + i%2*3)
		s.Pick(uint64(i))
		add(t, s, 6+i, always(sched.Blocked))
	}
	if !slices.Equal(ready, []int{1, 4}) || !slices.Equal(blocked, []int{2, 5}) {
		t.Fatal(ready, blocked)
	}
	if !slices.Equal(spareReady, []int{1, 4, 99}) || !slices.Equal(spareBlocked, []int{2, 5, 99}) {
		t.Fatal(spareReady, spareBlocked)
	}
}

// R2, R6: where there are none, the lists are empty.
func TestListsOfNone(t *testing.T) {
	s := sched.New()
	lists(t, s, nil, nil)
	add(t, s, 1, always(sched.Over))
	picks(t, s, 0, 1, sched.Over)
	for _, l := range [][]int{s.Ready(), s.Blocked()} {
		if len(l) != 0 {
			t.Fatal(l)
		}
		spoil(append(l, 1))
	}
	lists(t, s, nil, nil)
	add(t, s, 2, always(sched.Blocked))
	lists(t, s, []int{2}, nil)
}

// R4: two scheds that are asked the same tell the same.
func TestSameAgain(t *testing.T) {
	run := func() []string {
		p := &play{face: sched.New()}
		for i := range 400 {
			adds().do(p)
			pick(uint64(i*i*7919), sched.Ready+sched.Status(i%3), wake(i%9), adds()).do(p)
			wake(i % 13).do(p)
			p.look()
		}
		return p.log
	}
	if !slices.Equal(run(), run()) {
		t.Fatal("told otherwise")
	}
}
