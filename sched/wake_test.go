package sched_test

import (
	"slices"
	"testing"

	"ledgerstone/sched"
)

// mixedSched has tasks 1 and 4 ready, 2 and 5 blocked, 3 over.
func mixedSched(t *testing.T) *sched.Sched {
	t.Helper()
	s := sched.New()
	for i, told := range []sched.Status{sched.Ready, sched.Blocked, sched.Over, sched.Ready, sched.Blocked} {
		add(t, s, i+1, always(told))
	}
	for range 5 {
		s.Pick(0)
	}
	lists(t, s, []int{1, 4}, []int{2, 5})
	return s
}

// P13.3: Wake of a task that is blocked: it is ready, behind all others; once.
func TestWakeOfABlockedOne(t *testing.T) {
	s := mixedSched(t)
	wakes(t, s, 5, true)
	lists(t, s, []int{1, 4, 5}, []int{2})
	has(t, s, 5, sched.Ready, 1)
	wakes(t, s, 5, false)
	lists(t, s, []int{1, 4, 5}, []int{2})
	wakes(t, s, 2, true)
	lists(t, s, []int{1, 4, 5, 2}, nil)
	picks(t, s, 2, 5, sched.Blocked)
	lists(t, s, []int{1, 4, 2}, []int{5})
	wakes(t, s, 5, true)
	lists(t, s, []int{1, 4, 2, 5}, nil)
	picks(t, s, 3, 5, sched.Blocked)
	has(t, s, 5, sched.Blocked, 3)
}

// P13.3: Wake of a task that is ready, or over, or that there is not: false, and nothing is changed.
func TestWakeOfOthers(t *testing.T) {
	s := mixedSched(t)
	for _, id := range append(edges(), 1, 4, 3, 0, -1, 6, 7) {
		for range 2 {
			wakes(t, s, id, false)
			lists(t, s, []int{1, 4}, []int{2, 5})
		}
	}
	for i, status := range []sched.Status{0, sched.Ready, sched.Blocked, sched.Over, sched.Ready, sched.Blocked, 0} {
		has(t, s, i, status, min(int(status), 1))
	}
	picks(t, s, 0, 1, sched.Ready) // a Wake while it was ready does not count later
	add(t, s, 6, always(sched.Blocked))
	wakes(t, s, 6, false)
	picks(t, s, 2, 6, sched.Blocked)
}

// P13.3: Wake of the task that has its step: true the first time, false behind that; it matters only if it blocks, and for this step alone.
func TestWakeOfOneself(t *testing.T) {
	for _, times := range []int{0, 1, 2, 3} {
		for _, told := range []sched.Status{sched.Ready, sched.Blocked, sched.Over, 0, 77} {
			s := sched.New()
			steps := 0
			add(t, s, 1, act(func() sched.Status {
				if steps++; steps > 1 {
					return sched.Blocked
				}
				for i := range times {
					wakes(t, s, 1, i == 0, times, told)
					has(t, s, 1, sched.Ready, 0, times, told)
					lists(t, s, []int{2}, nil, times, told)
				}
				return told
			}), always(sched.Ready))
			then := told
			switch {
			case told == sched.Blocked && times > 0:
				then = sched.Ready
			case told != sched.Ready && told != sched.Blocked:
				then = sched.Over
			}
			picks(t, s, 0, 1, then, times, told)
			switch then {
			case sched.Ready:
				lists(t, s, []int{2, 1}, nil, times, told)
				wakes(t, s, 1, false, times, told)
				picks(t, s, 1, 1, sched.Blocked, times, told) // the Wake is used up
				lists(t, s, []int{2}, []int{1}, times, told)
			case sched.Blocked:
				lists(t, s, []int{2}, []int{1}, times, told)
				wakes(t, s, 1, true, times, told)
				lists(t, s, []int{2, 1}, nil, times, told)
			case sched.Over:
				lists(t, s, []int{2}, nil, times, told)
				wakes(t, s, 1, false, times, told)
			}
		}
	}
}

// P13.3: a task is woken anew in each of its steps; a Wake in the step of another one does not count for it.
func TestWakeCountsForItsStep(t *testing.T) {
	s := sched.New()
	add(t, s, 1, act(func() sched.Status {
		wakes(t, s, 1, true)
		wakes(t, s, 1, false)
		return sched.Blocked
	}), act(func() sched.Status {
		wakes(t, s, 1, false)
		return sched.Blocked
	}))
	for range 5 {
		picks(t, s, 0, 1, sched.Ready)
		picks(t, s, 0, 2, sched.Blocked)
		lists(t, s, []int{1}, []int{2})
		wakes(t, s, 2, true)
	}
}

// P13.3: Wake of others within a Step: those that are blocked are ready at once, ahead of the one that has the step; whether that was woken too changes nothing for them.
func TestWakeOfOthersWithinAStep(t *testing.T) {
	for _, told := range []sched.Status{sched.Ready, sched.Blocked, sched.Over} {
		for _, self := range []bool{false, true} {
			s := mixedSched(t)
			add(t, s, 6, act(func() sched.Status {
				wakes(t, s, 5, true)
				lists(t, s, []int{1, 4, 5}, []int{2})
				if self {
					wakes(t, s, 6, true)
				}
				wakes(t, s, 5, false)
				wakes(t, s, 2, true)
				lists(t, s, []int{1, 4, 5, 2}, nil)
				for _, id := range append(edges(), 1, 2, 3, 4, 5, 7) {
					wakes(t, s, id, false)
				}
				lists(t, s, []int{1, 4, 5, 2}, nil)
				return told
			}))
			then, line := told, []int{1, 4, 5, 2}
			if self && told == sched.Blocked {
				then = sched.Ready
			}
			if then == sched.Ready {
				line = append(line, 6)
			}
			picks(t, s, 2, 6, then, told, self)
			if got := s.Ready(); !slices.Equal(got, line) {
				t.Fatal(told, self, got)
			}
		}
	}
}

// P13.3: a task that was added within a Step is not woken by that step's Wake.
func TestWakeOfOneAddedWithinAStep(t *testing.T) {
	s := sched.New()
	add(t, s, 1, act(func() sched.Status {
		wakes(t, s, 2, false)
		add(t, s, 2, always(sched.Blocked))
		wakes(t, s, 2, false)
		wakes(t, s, 1, true)
		return sched.Blocked
	}))
	picks(t, s, 0, 1, sched.Ready)
	picks(t, s, 0, 2, sched.Blocked)
	lists(t, s, []int{1}, []int{2})
}

// P13.3, P13.4: those that are blocked are told rising, however they came to be so; those that are woken in the order in which they were.
func TestOrders(t *testing.T) {
	s := sched.New()
	for id := 1; id <= 64; id++ {
		add(t, s, id, always(sched.Blocked))
	}
	var blocked []int
	for i := range 64 {
		id, status, ok := s.Pick(uint64(i * 37))
		if status != sched.Blocked || !ok {
			t.Fatal(i, id, status, ok)
		}
		blocked = append(blocked, id)
		slices.Sort(blocked)
		if got := s.Blocked(); !slices.Equal(got, blocked) {
			t.Fatal(got, blocked)
		}
	}
	var line []int
	for i := range 64 {
		id := i*29%64 + 1
		wakes(t, s, id, true)
		line = append(line, id)
		blocked = slices.DeleteFunc(blocked, func(other int) bool { return other == id })
		lists(t, s, line, blocked, i)
	}
}
