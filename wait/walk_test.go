package wait_test

import (
	"fmt"
	"math"
	"math/rand"
	"slices"
	"testing"

	"ledgerstone/tl2"
)

// move is something that is done in a scene.
type move struct {
	name string
	do   func(s *scene)
}

// parkMove begins a transaction, has it read these cells, publishes a cell (none: -1), and parks it.
func parkMove(id int, cells []int, between int) move {
	return move{fmt.Sprint("park ", id, cells, between), func(s *scene) {
		s.begin(0)
		for _, i := range cells {
			s.read(0, i)
		}
		if between >= 0 {
			s.publish(between)
		}
		s.park(id, s.readers[0])
	}}
}

// everyMove is each call of a watch of two cells, with ids up to ids and what may not be beside them, and what becomes of the cells.
func everyMove(ids int) []move {
	out := []move{
		{"changed", (*scene).changed},
		{"look", (*scene).look},
		{"advance", func(s *scene) { s.m.Advance() }},
	}
	for i := range 2 {
		out = append(out, move{fmt.Sprint("publish ", i), func(s *scene) { s.publish(i) }})
		out = append(out, move{fmt.Sprint("lock and unlock ", i), func(s *scene) { s.toggle(i); s.look(); s.toggle(i) }})
	}
	for id := -1; id <= ids; id++ {
		out = append(out, move{fmt.Sprint("forget ", id), func(s *scene) { s.forget(id) }})
		out = append(out, move{fmt.Sprint("park none ", id), func(s *scene) { s.park(id, nil) }})
		for _, cells := range [][]int{nil, {0}, {1}, {1, 0}} {
			for between := -1; between < 2; between++ {
				out = append(out, parkMove(id, cells, between))
			}
		}
	}
	return out
}

// state is what is to be told apart of a scene.
func (s *scene) state() string {
	var waiters []string
	for _, a := range s.want.waiters {
		waiters = append(waiters, fmt.Sprint(a))
	}
	slices.Sort(waiters)
	return fmt.Sprint(s.m.Clock(), s.versions(), waiters)
}

// P18.1, P18.2: each call in each state that a watch of two cells comes to, within bounds, against the model; behind it Changed is asked.
func TestEveryCallInEveryState(t *testing.T) {
	t.Parallel()
	for _, bound := range []struct {
		ids    int
		clock  int64
		states int
	}{{1, 4, 459}, {2, 2, 3*5*5 + 4*7*7 + 4*9*9}, {3, 1, 2*5*5*5 + 2*7*7*7}} {
		moves := everyMove(bound.ids)
		start := newScene(t, 2, 1)
		known := map[string]bool{start.state(): true}
		ways := [][]move{nil}
		for at := 0; at < len(ways); at++ {
			for _, next := range moves {
				s := newScene(t, 2, 1)
				for _, done := range ways[at] {
					done.do(s)
				}
				next.do(s)
				if state := s.state(); !known[state] && s.m.Clock() <= bound.clock {
					known[state] = true
					ways = append(ways, append(slices.Clone(ways[at]), next))
				}
				s.changed()
				s.changed()
			}
		}
		// A waiter is none, or one with what a moment told of a subset of the cells: 5 ways ahead of the first publishing, 7 behind it, 9 behind the second.
		if len(ways) != bound.states {
			t.Fatal("the test itself", bound, len(ways))
		}
	}
}

// shortMoves are those of a transaction and a watch, one of each kind.
func shortMoves() []move {
	return []move{
		{"begin", func(s *scene) { s.begin(0) }},
		{"read 0", func(s *scene) { s.read(0, 0) }},
		{"read 1", func(s *scene) { s.read(0, 1) }},
		{"write 0", func(s *scene) { s.readers[0].Write(0, 5) }},
		{"step", func(s *scene) { s.readers[0].Step() }},
		{"abort", func(s *scene) { s.readers[0].Abort() }},
		{"publish 0", func(s *scene) { s.publish(0) }},
		{"publish 1", func(s *scene) { s.publish(1) }},
		{"lock 0", func(s *scene) { s.toggle(0) }},
		{"park 1", func(s *scene) { s.park(1, s.readers[0]) }},
		{"park 2", func(s *scene) { s.park(2, s.readers[0]) }},
		{"forget 1", func(s *scene) { s.forget(1) }},
		{"changed", (*scene).changed},
	}
}

// P18.1, P18.2: every list of up to four moves of one transaction and a watch, in whatever status it is, against the model.
func TestEveryShortRun(t *testing.T) {
	t.Parallel()
	moves := shortMoves()
	count, told := 0, 0
	var from func(l []move)
	from = func(l []move) {
		s := newScene(t, 2, 1)
		for _, next := range l {
			next.do(s)
		}
		s.park(3, s.readers[0])
		if s.publish(1); count%2 == 0 {
			s.publish(0)
		}
		told += len(s.w.Parked())
		s.changed()
		s.changed()
		told -= len(s.w.Parked())
		count++
		for _, next := range moves {
			if len(l) < 4 {
				from(append(l[:len(l):len(l)], next))
			}
		}
	}
	from(nil)
	if count != 1+13+13*13+13*13*13+13*13*13*13 || told < 9000 {
		t.Fatal("the test itself", count, told)
	}
}

// chance is what scenes by chance are made of.
type chance struct {
	*rand.Rand
	ids []int
}

// id is one by chance; now and then one that may not be, or one that none has.
func (c chance) id() int {
	if c.Intn(40) == 0 {
		return append(noIds(), 1<<50, math.MaxInt)[c.Intn(len(noIds())+2)]
	}
	return c.ids[c.Intn(len(c.ids))]
}

// move does something by chance.
func (c chance) move(s *scene) {
	k, i := c.Intn(len(s.readers)), c.Intn(s.m.Size())
	x := s.readers[k]
	switch n := c.Intn(100); {
	case n < 20:
		s.read(k, i)
	case n < 24:
		x.Write(i, c.Int())
	case n < 26:
		x.Mark()
	case n < 28:
		x.Undo()
	case n < 40:
		if x.Status() == tl2.Ending || c.Intn(4) == 0 {
			x.Step()
		}
	case n < 41:
		x.Abort()
	case n < 47:
		if x.Status() != tl2.Open || c.Intn(6) == 0 {
			s.begin(k)
		}
	case n < 52:
		s.publish(i)
	case n < 54:
		s.toggle(i)
	case n < 57:
		s.changed()
	case n < 60:
		s.forget(c.id())
	case n < 61:
		s.park(c.id(), nil)
	default:
		s.park(c.id(), x)
	}
}

// P18.1, P18.2: many calls by chance against the model: few cells and many, few waiters and as many as there may be, several transactions in any status.
func TestCallsByChance(t *testing.T) {
	t.Parallel()
	tally := map[string]int{}
	for seed := range int64(120) {
		r := rand.New(rand.NewSource(seed))
		s := newScene(t, []int{1, 2, 5, 40, 1024}[seed%5], 1+r.Intn(6))
		s.tally = tally
		c := chance{r, upTo(1, []int{2, 6, 70, 200}[seed/5%4], 1)}
		if seed%3 == 0 {
			for k := range c.ids {
				c.ids[k] = 1 + r.Intn(math.MaxInt)>>r.Intn(63)
			}
		}
		for range 1500 {
			c.move(s)
			s.log = s.log[max(0, len(s.log)-12):]
		}
		s.changed()
	}
	for _, what := range []string{"Park 0", "Park 1", "Park 2", "Park 130", "Park 5", "Forget true", "Forget false", "Changed []", "Changed [1]", "Changed [1 2]"} {
		if tally[what] < 40 {
			t.Fatal("the test itself", what, tally[what])
		}
	}
}
