package sched_test

import (
	"slices"
	"testing"

	"ledgerstone/sched"
)

// P13.4: what is told within a Step: of the task that has it Ready, though it is not in the line, and the steps that it has had ahead of this one.
func TestTellsWithinAStep(t *testing.T) {
	s := mixedSched(t)
	asked := 0
	add(t, s, 6, act(func() sched.Status {
		has(t, s, 6, sched.Ready, asked)
		lists(t, s, []int{1, 4}, []int{2, 5})
		for i, status := range []sched.Status{0, sched.Ready, sched.Blocked, sched.Over, sched.Ready, sched.Blocked} {
			has(t, s, i, status, min(int(status), 1))
		}
		has(t, s, 7, 0, 0)
		asked++
		return []sched.Status{sched.Ready, sched.Ready, sched.Blocked, sched.Over}[asked-1]
	}))
	for i, status := range []sched.Status{sched.Ready, sched.Ready, sched.Blocked, sched.Over} {
		picks(t, s, 2, 6, status)
		has(t, s, 6, status, i+1)
		wakes(t, s, 6, status == sched.Blocked)
	}
	if asked != 4 {
		t.Fatal(asked)
	}
	lists(t, s, []int{1, 4}, []int{2, 5})
}

// P13.4: numbers that no task has.
func TestTellsOfNone(t *testing.T) {
	s := mixedSched(t)
	for _, id := range append(edges(), 6, 7, 8) {
		has(t, s, id, 0, 0)
	}
	s = full(t, 0, func(int) sched.Status { return sched.Ready })
	has(t, s, 64, sched.Ready, 0)
	for _, id := range edges() {
		has(t, s, id, 0, 0)
	}
}

// P13.4: steps are counted for each task of its own, and go on through all that a task is.
func TestSteps(t *testing.T) {
	s := sched.New()
	want := make([]int, 9)
	for id := 1; id <= 8; id++ {
		add(t, s, id, always(sched.Ready+sched.Status(id%2)))
	}
	for i := range 5000 {
		id, status, ok := s.Pick(uint64(i * i))
		if !ok {
			t.Fatal(i)
		}
		want[id]++
		if status == sched.Blocked {
			wakes(t, s, id, true)
		}
		for other := range want {
			if s.Steps(other) != want[other] {
				t.Fatal(i, other, s.Steps(other), want[other])
			}
		}
	}
	if slices.Contains(want[1:], 0) {
		t.Fatal("the test itself", want)
	}
}

// P13.4: a task of very many steps.
func TestManySteps(t *testing.T) {
	s := sched.New()
	add(t, s, 1, always(sched.Ready))
	for range 1 << 17 {
		picks(t, s, 1, 1, sched.Ready)
	}
	has(t, s, 1, sched.Ready, 1<<17)
}

// R4: what is told changes nothing, however often it is asked.
func TestTellingChangesNothing(t *testing.T) {
	s := mixedSched(t)
	for range 5 {
		lists(t, s, []int{1, 4}, []int{2, 5})
		for i, status := range []sched.Status{0, sched.Ready, sched.Blocked, sched.Over, sched.Ready, sched.Blocked, 0} {
			has(t, s, i, status, min(int(status), 1))
		}
	}
}
