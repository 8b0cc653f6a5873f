package sched_test

import (
	"math"
	"slices"
	"testing"

	"ledgerstone/api"
	"ledgerstone/sched"
)

// act is a task whose Step is a function.
type act func() sched.Status

func (a act) Step() sched.Status { return a() }

// says is a task that tells these, one a step, and Over behind them.
func says(l ...sched.Status) sched.Task {
	return act(func() sched.Status {
		if len(l) == 0 {
			return sched.Over
		}
		told := l[0]
		l = l[1:]
		return told
	})
}

// always is a task that tells the same at each step.
func always(told sched.Status) sched.Task {
	return act(func() sched.Status { return told })
}

// add has these be tasks of s, whose numbers are to be first and those behind it.
func add(t *testing.T, s face, first int, l ...sched.Task) {
	t.Helper()
	for i, task := range l {
		if id, err := s.Add(task); id != first+i || err != api.OK {
			t.Fatal("Add", id, err, "wanted", first+i)
		}
	}
}

// picks is a Pick that has a step of that task, which is status then.
func picks(t *testing.T, s face, p uint64, id int, status sched.Status, what ...any) {
	t.Helper()
	if gotId, got, ok := s.Pick(p); gotId != id || got != status || !ok {
		t.Fatal("Pick", p, "told", gotId, got, ok, "wanted", id, status, what)
	}
}

// idle is a Pick that tells that there is nothing.
func idle(t *testing.T, s face, p uint64, what ...any) {
	t.Helper()
	if id, status, ok := s.Pick(p); id != 0 || status != 0 || ok {
		t.Fatal("Pick", p, "told", id, status, ok, what)
	}
}

// wakes is a Wake that tells want.
func wakes(t *testing.T, s face, id int, want bool, what ...any) {
	t.Helper()
	if s.Wake(id) != want {
		t.Fatal("Wake", id, "told", !want, what)
	}
}

// lists is what Ready and Blocked tell.
func lists(t *testing.T, s face, ready, blocked []int, what ...any) {
	t.Helper()
	if got := s.Ready(); !slices.Equal(got, ready) {
		t.Fatal("Ready", got, "wanted", ready, what)
	}
	if got := s.Blocked(); !slices.Equal(got, blocked) {
		t.Fatal("Blocked", got, "wanted", blocked, what)
	}
}

// has is the status of a task, and how many steps it has had.
func has(t *testing.T, s face, id int, status sched.Status, steps int, what ...any) {
	t.Helper()
	if got := s.Status(id); got != status {
		t.Fatal("Status", id, got, "wanted", status, what)
	}
	if got := s.Steps(id); got != steps {
		t.Fatal("Steps", id, got, "wanted", steps, what)
	}
}

// span is n numbers, from first on.
func span(first, n int) []int {
	var out []int
	for i := range n {
		out = append(out, first+i)
	}
	return out
}

// edges are numbers that tasks never have, or only where there are many.
func edges() []int {
	return []int{math.MinInt, math.MinInt + 1, -1 << 32, -65, -64, -2, -1, 0, 65, 1 << 31, 1 << 32, 1<<32 + 1, math.MaxInt - 1, math.MaxInt}
}

// The chapter's examples, with all that may be told beside them.
func TestExamples(t *testing.T) {
	s := sched.New()
	add(t, s, 1, says(sched.Ready, sched.Over), says(sched.Blocked, sched.Over))
	picks(t, s, 0, 1, sched.Ready)
	picks(t, s, 0, 2, sched.Blocked)
	lists(t, s, []int{1}, []int{2})
	wakes(t, s, 2, true)
	lists(t, s, []int{1, 2}, nil)
	picks(t, s, 1, 2, sched.Over)
	picks(t, s, 0, 1, sched.Over)
	idle(t, s, 0)
	has(t, s, 1, sched.Over, 2)
	has(t, s, 2, sched.Over, 2)
	lists(t, s, nil, nil)
}

// Types: the numbers that the chapter gives.
func TestNumbers(t *testing.T) {
	if sched.Ready != 1 || sched.Blocked != 2 || sched.Over != 3 {
		t.Fatal(sched.Ready, sched.Blocked, sched.Over)
	}
}

// P13.1: New has no tasks, and each one is new.
func TestNew(t *testing.T) {
	s, other := sched.New(), sched.New()
	if s == nil || other == nil || s == other {
		t.Fatal("New")
	}
	lists(t, s, nil, nil)
	for _, id := range append(edges(), 1, 2, 64) {
		has(t, s, id, 0, 0)
		wakes(t, s, id, false)
	}
	idle(t, s, 0)
	add(t, s, 1, always(sched.Blocked))
	picks(t, s, 0, 1, sched.Blocked)
	lists(t, other, nil, nil)
	has(t, other, 1, 0, 0)
	wakes(t, other, 1, false)
	add(t, other, 1, always(sched.Ready))
	lists(t, s, nil, []int{1})
}

// P13.1: a task that was added is ready, behind all others: those that were added ahead, that told Ready, and that were woken.
func TestAddStandsBehindAll(t *testing.T) {
	s := sched.New()
	add(t, s, 1, always(sched.Ready))
	lists(t, s, []int{1}, nil)
	has(t, s, 1, sched.Ready, 0)
	add(t, s, 2, always(sched.Blocked), always(sched.Over))
	lists(t, s, []int{1, 2, 3}, nil)
	picks(t, s, 0, 1, sched.Ready)
	add(t, s, 4, always(sched.Ready))
	lists(t, s, []int{2, 3, 1, 4}, nil)
	picks(t, s, 0, 2, sched.Blocked)
	wakes(t, s, 2, true)
	add(t, s, 5, always(sched.Ready))
	lists(t, s, []int{3, 1, 4, 2, 5}, nil)
	picks(t, s, 0, 3, sched.Over)
	add(t, s, 6, always(sched.Ready))
	lists(t, s, []int{1, 4, 2, 5, 6}, nil)
}

// nothing is a task by a pointer that may be nil.
type nothing struct{}

func (*nothing) Step() sched.Status { return sched.Ready }

// heap is a task that can't be compared.
type heap struct {
	l []int
	f func()
}

func (heap) Step() sched.Status { return sched.Blocked }

// P13.1: Add of nil tells ErrNil, and counts nothing; a task that is a pointer that is nil is one.
func TestAddOfNil(t *testing.T) {
	s := sched.New()
	refuse := func(want api.Errno) {
		t.Helper()
		if id, err := s.Add(nil); id != 0 || err != want {
			t.Fatal(id, err)
		}
	}
	refuse(api.ErrNil)
	lists(t, s, nil, nil)
	has(t, s, 1, 0, 0)
	add(t, s, 1, (*nothing)(nil))
	refuse(api.ErrNil)
	lists(t, s, []int{1}, nil)
	add(t, s, 2, always(sched.Ready))
	picks(t, s, 0, 1, sched.Ready)
	for id := 3; id <= 64; id++ {
		add(t, s, id, always(sched.Ready))
	}
	refuse(api.ErrNil) // ahead of ErrFull
	lists(t, s, append(span(2, 1), append([]int{1}, span(3, 62)...)...), nil)
}

// P13.1, R1: tasks may be of any type, be the same one, and such as can't be compared.
func TestAddOfAnyTask(t *testing.T) {
	s := sched.New()
	steps := 0
	same := act(func() sched.Status { steps++; return sched.Ready })
	add(t, s, 1, same, heap{}, heap{l: []int{1}}, heap{f: func() {}}, same, heap{})
	for i, status := range []sched.Status{sched.Ready, sched.Blocked, sched.Blocked, sched.Blocked, sched.Ready, sched.Blocked} {
		picks(t, s, 0, i+1, status)
	}
	lists(t, s, []int{1, 5}, []int{2, 3, 4, 6})
	if steps != 2 {
		t.Fatal(steps)
	}
	wakes(t, s, 3, true)
	lists(t, s, []int{1, 5, 3}, []int{2, 4, 6})
}

// full is a sched with 64 tasks that are not over, each as told says by its number, and how many more are over.
func full(t *testing.T, over int, told func(id int) sched.Status) *sched.Sched {
	t.Helper()
	s := sched.New()
	for id := 1; id <= over; id++ {
		add(t, s, id, always(sched.Over))
		picks(t, s, 0, id, sched.Over)
	}
	for id := over + 1; id <= over+64; id++ {
		add(t, s, id, always(told(id)))
	}
	return s
}

// P13.1: the 64th task is taken, one more is not, whether they are ready or blocked; behind one that is over there is room for one more.
func TestAddOfTooMany(t *testing.T) {
	for _, over := range []int{0, 1, 5, 64, 200} {
		for kind := range 3 {
			s := full(t, over, func(id int) sched.Status {
				return []sched.Status{sched.Ready, sched.Blocked, sched.Ready + sched.Status(id%2)}[kind]
			})
			refuse := func() {
				t.Helper()
				ready, blocked := s.Ready(), s.Blocked()
				if id, err := s.Add(always(sched.Over)); id != 0 || err != api.ErrFull {
					t.Fatal(over, kind, id, err)
				}
				lists(t, s, ready, blocked, over, kind)
				has(t, s, over+65, 0, 0, over, kind)
			}
			refuse()
			for range 64 {
				s.Pick(0)
				refuse()
			}
			for _, id := range s.Blocked() {
				wakes(t, s, id, true)
				refuse()
			}
		}
	}
}

// P13.1: each task that is over leaves room for just one more; numbers go on rising.
func TestAddBehindOver(t *testing.T) {
	s := full(t, 0, func(int) sched.Status { return sched.Over })
	next := 65
	for _, gone := range []int{1, 2, 7, 64, 3, 1, 1} {
		for range gone {
			if _, status, ok := s.Pick(5); status != sched.Over || !ok {
				t.Fatal(status, ok)
			}
		}
		for range gone {
			add(t, s, next, always(sched.Over))
			next++
		}
		if id, err := s.Add(always(sched.Over)); id != 0 || err != api.ErrFull {
			t.Fatal(gone, id, err)
		}
		if n := len(s.Ready()); n != 64 {
			t.Fatal(n)
		}
	}
}

// P13.1: Add within a Step: the new one stands behind those in the line, and ahead of the one that has the step, if that tells Ready or was woken.
func TestAddWithinAStep(t *testing.T) {
	for _, c := range []struct {
		told   sched.Status
		woken  bool
		then   sched.Status
		behind []int
	}{{sched.Ready, false, sched.Ready, []int{2, 3, 4, 1}}, {sched.Blocked, true, sched.Ready, []int{2, 3, 4, 1}}, {sched.Blocked, false, sched.Blocked, []int{2, 3, 4}}, {sched.Over, false, sched.Over, []int{2, 3, 4}}} {
		s := sched.New()
		add(t, s, 1, act(func() sched.Status {
			add(t, s, 3, always(sched.Ready))
			lists(t, s, []int{2, 3}, nil)
			has(t, s, 3, sched.Ready, 0)
			if c.woken {
				wakes(t, s, 1, true)
			}
			add(t, s, 4, always(sched.Ready))
			if id, err := s.Add(nil); id != 0 || err != api.ErrNil {
				t.Fatal(id, err)
			}
			lists(t, s, []int{2, 3, 4}, nil)
			return c.told
		}), always(sched.Ready))
		picks(t, s, 0, 1, c.then)
		if got := s.Ready(); !slices.Equal(got, c.behind) {
			t.Fatal(c, got)
		}
	}
}

// P13.1: the task that has its step is not over, and counts; once it told Over it does not.
func TestAddWithinAStepOfTooMany(t *testing.T) {
	for _, told := range []sched.Status{sched.Ready, sched.Blocked, sched.Over} {
		s := sched.New()
		add(t, s, 1, act(func() sched.Status {
			for id := 3; id <= 65; id++ {
				want, err := id, api.OK
				if id == 65 {
					want, err = 0, api.ErrFull
				}
				if got, e := s.Add(always(sched.Ready)); got != want || e != err {
					t.Fatal(id, got, e)
				}
			}
			return told
		}), always(sched.Ready))
		picks(t, s, 0, 1, told)
		id, err := s.Add(always(sched.Ready))
		if over := told == sched.Over; over && (id != 65 || err != api.OK) || !over && (id != 0 || err != api.ErrFull) {
			t.Fatal(told, id, err)
		}
	}
}

// P13.1, P13.4: many tasks, one behind the other: numbers go on, and what is over is told for ever.
func TestManyTasks(t *testing.T) {
	s := sched.New()
	for id := 1; id <= 30000; id++ {
		add(t, s, id, says(slices.Repeat([]sched.Status{sched.Ready}, id%3)...))
		for range id % 3 {
			picks(t, s, 0, id, sched.Ready)
		}
		picks(t, s, uint64(id), id, sched.Over)
	}
	for id := 1; id <= 30000; id++ {
		has(t, s, id, sched.Over, id%3+1)
		wakes(t, s, id, false)
	}
	has(t, s, 30001, 0, 0)
	lists(t, s, nil, nil)
}

// notScheds are scheds that New did not make, and none.
func notScheds(t *testing.T) []*sched.Sched {
	t.Helper()
	s := sched.New()
	add(t, s, 1, always(sched.Ready), always(sched.Blocked), always(sched.Over), always(sched.Ready))
	for range 4 {
		s.Pick(0)
	}
	copied := *s
	other := sched.New()
	*other = *s
	var within sched.Sched
	add(t, s, 5, act(func() sched.Status { within = *s; return sched.Over }))
	picks(t, s, 2, 5, sched.Over)
	return []*sched.Sched{nil, {}, new(sched.Sched), &copied, other, &within}
}

// R5: each call of a sched that is nil, or that New did not make, whatever the arguments are.
func TestNoSched(t *testing.T) {
	for i, s := range notScheds(t) {
		for range 2 {
			for _, task := range []sched.Task{nil, always(sched.Ready), (*nothing)(nil), heap{}} {
				if id, err := s.Add(task); id != 0 || err != api.ErrNil {
					t.Fatal(i, id, err)
				}
			}
			for _, p := range []uint64{0, 1, 2, 1 << 63, math.MaxUint64} {
				idle(t, s, p, i)
			}
			for _, id := range append(edges(), 1, 2, 3, 4, 5, 6) {
				wakes(t, s, id, false, i)
				has(t, s, id, 0, 0, i)
			}
			lists(t, s, nil, nil, i)
		}
	}
}

// R1: a sched that is overwritten in a Step is none any more: nothing panics.
func TestLostWithinAStep(t *testing.T) {
	for _, told := range []sched.Status{sched.Ready, sched.Blocked, sched.Over} {
		s := sched.New()
		add(t, s, 1, act(func() sched.Status { *s = sched.Sched{}; return told }), always(sched.Ready))
		s.Pick(0)
		idle(t, s, 0)
		lists(t, s, nil, nil)
		has(t, s, 1, 0, 0)
		wakes(t, s, 1, false)
		if id, err := s.Add(always(sched.Ready)); id != 0 || err != api.ErrNil {
			t.Fatal(id, err)
		}
	}
}
