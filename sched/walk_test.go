package sched_test

import (
	"math"
	"math/rand"
	"slices"
	"testing"

	"ledgerstone/api"
	"ledgerstone/sched"
)

// inner are lists of calls within a step, of tasks 1 to 3, up to two of them in a row.
func inner() [][]call {
	single := []call{adds(), addsNil(), pick(0, sched.Ready), pick(math.MaxUint64, sched.Over), wake(0), wake(1), wake(2), wake(3), wake(4)}
	out := [][]call{nil}
	for _, a := range single {
		out = append(out, []call{a})
		for _, b := range single {
			out = append(out, []call{a, b})
		}
	}
	return out
}

// moves are all calls of some tasks.
func moves() []call {
	out := []call{adds(), addsNil()}
	for id := -1; id <= 4; id++ {
		out = append(out, wake(id))
	}
	for p := range uint64(4) {
		for _, told := range []sched.Status{sched.Ready, sched.Blocked, sched.Over, 0, 255} {
			for _, within := range inner() {
				out = append(out, pick(p, told, within...))
			}
		}
	}
	return out
}

// P13.1 to P13.4: every call, with up to two calls within its step, in every state that three tasks come to, against the model; behind it the line is gone through.
func TestEveryState(t *testing.T) {
	calls := moves()
	paths := [][]call{nil}
	seen := map[string]bool{newPair().state(): true}
	for at := 0; at < len(paths); at++ {
		for _, next := range calls {
			p := newPair()
			for _, c := range paths[at] {
				c.do(p.real)
				c.do(p.want)
			}
			p.ask(t, next, at)
			if state := p.state(); !seen[state] && len(p.want.face.(*model).tasks) <= 3 {
				seen[state] = true
				paths = append(paths, append(slices.Clone(paths[at]), next))
			}
			for range 3 {
				p.ask(t, pick(0, sched.Blocked), at, next.name)
			}
		}
	}
	// Each task is blocked, over, or at some place of the line: of 0 to 3 tasks 1, 3, 10 and 38 states.
	want := 0
	for n := range 4 {
		for line := 0; line <= n; line++ {
			orders := 1 // of line out of n
			for i := range line {
				orders *= n - i
			}
			want += orders << (n - line)
		}
	}
	if len(paths) != want {
		t.Fatal("the test itself", len(paths), want)
	}
}

// chanceInner is calls by chance within a step.
func chanceInner(r *rand.Rand, tasks int) []call {
	var out []call
	for range max(0, r.Intn(8)-4) {
		switch k := r.Intn(12); {
		case k < 3:
			out = append(out, adds())
		case k < 4:
			out = append(out, pick(r.Uint64(), sched.Over))
		case k < 5:
			out = append(out, addsNil())
		default:
			out = append(out, wake(r.Intn(tasks+3)-1))
		}
	}
	return out
}

// chanceCall is a call by chance; over tells how many of a hundred steps are a task's last one.
func chanceCall(r *rand.Rand, tasks, over int) call {
	switch k := r.Intn(100); {
	case k < 12:
		return adds()
	case k < 13:
		return addsNil()
	case k < 40:
		return wake(tasks - r.Intn(min(tasks+3, 80)) + 1)
	}
	told := sched.Ready + sched.Status(r.Intn(2))
	if r.Intn(100) < over {
		told = []sched.Status{sched.Over, sched.Over, 0, 4, 255}[r.Intn(5)]
	}
	n := r.Uint64() >> r.Intn(64)
	return pick(n, told, chanceInner(r, tasks)...)
}

// P13.1 to P13.4: many calls by chance against the model, with few tasks and with as many as there may be.
func TestCallsByChance(t *testing.T) {
	for seed, over := range []int{0, 1, 2, 5, 10, 20, 40, 100} {
		r := rand.New(rand.NewSource(int64(seed)))
		p := newPair()
		fulls := 0 // how often there were as many as there may be
		for step := range 1500 {
			m := p.want.face.(*model)
			p.ask(t, chanceCall(r, len(m.tasks), over), seed, step)
			if len(m.Ready())+len(m.Blocked()) == 64 {
				fulls++
			}
		}
		if fulls == 0 && over < 3 {
			t.Fatal("the test itself", seed)
		}
	}
}

// counted is a task that counts its steps, and is told by chance what it does.
type counted struct {
	tally *tally
	id    int
	r     *rand.Rand
}

// tally is what follows of the Steps alone, without a model.
type tally struct {
	s     *sched.Sched
	steps []int // by numbers
	last  int   // whose Step was called last
	calls int
	over  map[int]bool
}

func (c *counted) Step() sched.Status {
	y := c.tally
	y.calls++
	y.steps[c.id]++
	y.last = c.id
	switch c.r.Intn(6) {
	case 0:
		y.add(c.r)
	case 1:
		y.s.Wake(c.r.Intn(len(y.steps)))
	case 2:
		y.s.Wake(c.id)
	case 3:
		y.s.Pick(c.r.Uint64())
	}
	return []sched.Status{sched.Ready, sched.Ready, sched.Blocked, sched.Blocked, sched.Blocked, sched.Over}[c.r.Intn(6)]
}

// add adds a task, if there is room.
func (y *tally) add(r *rand.Rand) {
	task := &counted{tally: y, id: len(y.steps), r: r}
	if id, err := y.s.Add(task); err == api.OK && id == task.id {
		y.steps = append(y.steps, 0)
	}
}

// P13.5: each Pick that tells true is one step of the task that it tells, each that tells false none; a task that is over has none any more.
func TestEachPickIsOneStep(t *testing.T) {
	for seed := range int64(20) {
		r := rand.New(rand.NewSource(seed))
		y := &tally{s: sched.New(), steps: []int{0}, over: map[int]bool{}}
		for step := range 4000 {
			if r.Intn(3) == 0 {
				y.add(r)
			}
			if r.Intn(3) == 0 {
				y.s.Wake(len(y.steps) - r.Intn(64))
			}
			calls, line := y.calls, y.s.Ready()
			id, status, ok := y.s.Pick(r.Uint64())
			if ok != (len(line) > 0) || ok != (y.calls == calls+1) || !ok && (y.calls != calls || id != 0 || status != 0) {
				t.Fatal(seed, step, id, status, ok, y.calls-calls, line)
			}
			if ok && (id != y.last || y.over[id] || !slices.Contains(line, id) || y.s.Status(id) != status) {
				t.Fatal(seed, step, id, status, y.last)
			}
			y.over[id] = ok && status == sched.Over
			for i, n := range y.steps {
				if y.s.Steps(i) != n || y.over[i] && y.s.Status(i) != sched.Over {
					t.Fatal(seed, step, i, y.s.Steps(i), n)
				}
			}
		}
		if len(y.steps) < 100 {
			t.Fatal("the test itself", len(y.steps))
		}
	}
}

// P13.5: who is ready, with m others, is picked within m + 1 picks of 0, whatever is added and woken meanwhile.
func TestWhoIsReadyIsPicked(t *testing.T) {
	for seed := range int64(20) {
		r := rand.New(rand.NewSource(seed))
		y := &tally{s: sched.New(), steps: []int{0}}
		due := map[int]int{} // of those that are ready, and were not picked since: by which pick of 0 they are
		for pick := 1; pick <= 4000; pick++ {
			for range r.Intn(3) {
				y.add(r)
				y.s.Wake(r.Intn(len(y.steps)))
			}
			line := y.s.Ready()
			for _, id := range line {
				if due[id] == 0 {
					due[id] = pick + len(line) - 1
				}
			}
			id, _, ok := y.s.Pick(0)
			if ok != (len(line) > 0) {
				t.Fatal(seed, pick, line)
			}
			delete(due, id)
			for other, by := range due {
				if by <= pick {
					t.Fatal(seed, pick, other, "was not picked")
				}
			}
		}
	}
}
