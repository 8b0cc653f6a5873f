package sched_test

import (
	"math"
	"slices"
	"testing"

	"ledgerstone/sched"
)

// numbersToPick are picks at the edges, of a line of n and of the numbers.
func numbersToPick(n int) []uint64 {
	m := uint64(n)
	return []uint64{
		0, 1, m - 1, m, m + 1, 2*m - 1, 2 * m, 2*m + 1, 63, 64, 65, 1000003,
		math.MaxInt32, 1 << 31, math.MaxUint32, 1 << 32, 1<<32 + 1, math.MaxInt64, 1 << 63, 1<<63 + 1, math.MaxUint64 - 1, math.MaxUint64,
	}
}

// P13.2: Pick with none ready: of a sched without tasks, with those that are blocked, and that are over.
func TestPickOfNone(t *testing.T) {
	s := sched.New()
	none := func(id int, status sched.Status, steps int) {
		t.Helper()
		for _, p := range numbersToPick(1) {
			idle(t, s, p)
		}
		has(t, s, id, status, steps)
	}
	none(1, 0, 0)
	add(t, s, 1, says(sched.Blocked))
	picks(t, s, 0, 1, sched.Blocked)
	none(1, sched.Blocked, 1)
	lists(t, s, nil, []int{1})
	wakes(t, s, 1, true)
	picks(t, s, 0, 1, sched.Over)
	none(1, sched.Over, 2)
	lists(t, s, nil, nil)
}

// P13.2: of n that are ready the one at place p modulo n, for each n; the others stay in their order.
func TestPickOfSome(t *testing.T) {
	for n := 1; n <= 64; n++ {
		for _, p := range append(numbersToPick(n), uint64(n/2), uint64(n/3)) {
			for _, told := range []sched.Status{sched.Ready, sched.Blocked, sched.Over} {
				s := sched.New()
				for id := 1; id <= n; id++ {
					add(t, s, id, always(told))
				}
				place := int(p % uint64(n))
				picks(t, s, p, place+1, told, n)
				line, blocked := slices.Delete(span(1, n), place, place+1), []int(nil)
				switch told {
				case sched.Ready:
					line = append(line, place+1)
				case sched.Blocked:
					blocked = []int{place + 1}
				}
				lists(t, s, line, blocked, n, p)
				for id := 1; id <= n; id++ {
					if id == place+1 {
						has(t, s, id, told, 1, n, p)
					} else {
						has(t, s, id, sched.Ready, 0, n, p)
					}
				}
			}
		}
	}
}

// P13.2: places are those of the line, not of the numbers.
func TestPickGoesByTheLine(t *testing.T) {
	s := sched.New()
	add(t, s, 1, always(sched.Ready), always(sched.Ready), always(sched.Blocked), always(sched.Ready))
	picks(t, s, 2, 3, sched.Blocked)
	lists(t, s, []int{1, 2, 4}, []int{3})
	picks(t, s, 0, 1, sched.Ready)
	lists(t, s, []int{2, 4, 1}, []int{3})
	picks(t, s, 1, 4, sched.Ready)
	lists(t, s, []int{2, 1, 4}, []int{3})
	wakes(t, s, 3, true)
	lists(t, s, []int{2, 1, 4, 3}, nil)
	picks(t, s, 4*1000+3, 3, sched.Blocked)
	picks(t, s, 2, 4, sched.Ready)
	lists(t, s, []int{2, 1, 4}, []int{3})
}

// P13.2: whatever number a Step tells that is neither Ready nor Blocked: the task is Over, and that is told.
func TestEveryNumberTold(t *testing.T) {
	for told := range 256 {
		for _, woken := range []bool{false, true} {
			s := sched.New()
			add(t, s, 1, act(func() sched.Status {
				if woken {
					wakes(t, s, 1, true, told)
				}
				return sched.Status(told)
			}), always(sched.Ready))
			want, line, blocked := sched.Over, []int{2}, []int(nil)
			switch {
			case told == 1 || told == 2 && woken:
				want, line = sched.Ready, []int{2, 1}
			case told == 2:
				want, blocked = sched.Blocked, []int{1}
			}
			picks(t, s, 0, 1, want, told, woken)
			lists(t, s, line, blocked, told, woken)
			has(t, s, 1, want, 1, told, woken)
			wakes(t, s, 1, want == sched.Blocked, told, woken)
		}
	}
}

// P13.2: a Pick within a Step tells that there is nothing, and has no step, whether others are ready or not; behind the Step there are picks again.
func TestPickWithinAStep(t *testing.T) {
	for n := 1; n <= 4; n++ {
		for _, told := range []sched.Status{sched.Ready, sched.Blocked, sched.Over} {
			s := sched.New()
			add(t, s, 1, act(func() sched.Status {
				line := s.Ready()
				for _, p := range numbersToPick(n) {
					idle(t, s, p, n)
				}
				lists(t, s, line, nil, n)
				return told
			}))
			for id := 2; id <= n; id++ {
				add(t, s, id, says(sched.Ready))
			}
			picks(t, s, 0, 1, told, n)
			for id := 2; id <= n; id++ {
				has(t, s, id, sched.Ready, 0, n)
				picks(t, s, 0, id, sched.Ready, n)
			}
		}
	}
}

// P13.2: Steps that all Pick are never within one another, and there are as many as picks from outside.
func TestNestedPicksHaveNoStep(t *testing.T) {
	s := sched.New()
	depth, deepest, steps := 0, 0, 0
	for id := 1; id <= 5; id++ {
		add(t, s, id, act(func() sched.Status {
			depth++
			deepest = max(deepest, depth)
			steps++
			for p := range uint64(7) {
				s.Pick(p)
			}
			depth--
			return sched.Ready
		}))
	}
	for i := range 100 {
		if _, _, ok := s.Pick(uint64(i * i)); !ok {
			t.Fatal(i)
		}
	}
	if deepest != 1 || steps != 100 {
		t.Fatal(deepest, steps)
	}
}

// P13.2: a step of one sched hinders no other sched; who is asked by a task of that is in a step still.
func TestStepsOfTwoScheds(t *testing.T) {
	one, two := sched.New(), sched.New()
	add(t, two, 1, act(func() sched.Status {
		idle(t, one, 0)
		idle(t, two, 0)
		wakes(t, one, 1, true)
		wakes(t, two, 2, false)
		has(t, one, 1, sched.Ready, 0)
		return sched.Blocked
	}))
	add(t, one, 1, act(func() sched.Status {
		picks(t, two, 0, 1, sched.Blocked)
		idle(t, one, 0)
		wakes(t, one, 1, false)
		wakes(t, two, 1, true)
		return sched.Blocked
	}), always(sched.Over))
	picks(t, one, 0, 1, sched.Ready)
	lists(t, one, []int{2, 1}, nil)
	lists(t, two, []int{1}, nil)
}

// P13.2: a task that is over is out of the line for ever.
func TestOverIsForEver(t *testing.T) {
	s := sched.New()
	over := 0
	add(t, s, 1, act(func() sched.Status { over++; return sched.Over }), always(sched.Ready), always(sched.Ready))
	picks(t, s, 0, 1, sched.Over)
	for i := range 50 {
		wakes(t, s, 1, false)
		if id, _, ok := s.Pick(uint64(i)); id == 1 || !ok {
			t.Fatal(i, id, ok)
		}
		has(t, s, 1, sched.Over, 1)
	}
	if over != 1 {
		t.Fatal(over)
	}
}
