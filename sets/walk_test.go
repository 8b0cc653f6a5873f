package sets_test

import (
	"fmt"
	"math/rand"
	"slices"
	"testing"

	"ledgerstone/sets"
)

// call is something that is asked of sets or a model; what it answered is told.
type call struct {
	name string
	do   func(s face[int]) string
}

func reading(i int, version int64) call {
	return call{fmt.Sprint("Read ", i, " ", version), func(s face[int]) string { return fmt.Sprint(s.Read(i, version)) }}
}

func writing(i, v int) call {
	return call{fmt.Sprint("Write ", i, " ", v), func(s face[int]) string { return fmt.Sprint(s.Write(i, v)) }}
}

func marking() call {
	return call{"Mark", func(s face[int]) string { return fmt.Sprint(s.Mark()) }}
}

func keeping() call {
	return call{"Keep", func(s face[int]) string { return fmt.Sprint(s.Keep()) }}
}

func undoing() call {
	return call{"Undo", func(s face[int]) string { return fmt.Sprint(s.Undo()) }}
}

// everyCall is each call on so many cells, with the values 0 and 1, so many versions, and what may not be beside them.
func everyCall(cells int, versions int64) []call {
	out := []call{marking(), keeping(), undoing()}
	for _, i := range append(upTo(0, cells-1), -1, 1024) {
		out = append(out, writing(i, 0), writing(i, 1))
		for version := int64(-1); version < versions; version++ {
			out = append(out, reading(i, version))
		}
	}
	return out
}

// way is calls that lead from new sets to a state.
type way []call

func (w way) from(s face[int]) face[int] {
	for _, c := range w {
		c.do(s)
	}
	return s
}

func (w way) names() []string {
	var out []string
	for _, c := range w {
		out = append(out, c.name)
	}
	return out
}

// everyState asks each of these calls in each state that they lead to with at most so many scopes, against the model, with all that an Undo brings back; it tells how many states there are.
func everyState(t *testing.T, calls []call, cells, depth int) int {
	t.Helper()
	seen := map[string]bool{scopes[int](&model[int]{}, cells): true}
	ways := []way{nil}
	for at := 0; at < len(ways); at++ {
		for _, c := range calls {
			real, want := ways[at].from(sets.New[int]()), ways[at].from(&model[int]{})
			if got, wanted := c.do(real), c.do(want); got != wanted {
				t.Fatal(ways[at].names(), c.name, "told", got, "wanted", wanted)
			}
			level := want.Depth()
			state := scopes(want, cells)
			if got := scopes(real, cells); got != state {
				t.Fatal(ways[at].names(), c.name, "left", got, "wanted", state)
			}
			if !seen[state] && level <= depth {
				seen[state] = true
				ways = append(ways, append(slices.Clone(ways[at]), c))
			}
		}
	}
	return len(ways)
}

// P15.1 to P15.4: each call in each state that one cell comes to in up to eight scopes, and two cells in up to two.
func TestEveryCallInEveryState(t *testing.T) {
	// A cell is not written in the outer scopes, and has one of two values in each one further in: with d scopes in 2^(d+2) - 1 ways.
	one := 0
	for d := range 9 {
		one += 1<<(d+2) - 1
	}
	if got := everyState(t, everyCall(1, 1), 1, 8); got != 2*one {
		t.Fatal("the test itself", got, 2*one)
	}
	if got := everyState(t, everyCall(2, 2), 2, 2); got != 9*(3*3+7*7+15*15) {
		t.Fatal("the test itself", got)
	}
}

// chance is what calls by chance are made of.
type chance struct {
	*rand.Rand
	cells []int // those that come up
	far   bool  // numbers at the edges come up, too
}

func newChance(seed int64, cells int, far bool) chance {
	r := rand.New(rand.NewSource(seed))
	return chance{r, r.Perm(1024)[:cells], far}
}

func (c chance) cell() int {
	if c.far && c.Intn(20) == 0 {
		l := noCells()
		return l[c.Intn(len(l))]
	}
	return c.cells[c.Intn(len(c.cells))]
}

// version is mostly the one with which that cell is read each time.
func (c chance) version(i int) int64 {
	switch k := c.Intn(20); {
	case c.far && k == 0:
		l := append(noVersions(), versions()...)
		return l[c.Intn(len(l))]
	case k == 1:
		return c.Int63n(50)
	}
	return int64(i & 1023)
}

// step is one call by chance; a mark comes up about as often as a scope is closed.
func (c chance) step(v int) call {
	i := c.cell()
	switch k := c.Intn(100); {
	case k < 35:
		return reading(i, c.version(i))
	case k < 75:
		return writing(i, v)
	case k < 88:
		return marking()
	case k < 94:
		return keeping()
	}
	return undoing()
}

// P15.1 to P15.4: many calls by chance against the model, on few cells; all is told behind each.
func TestCallsByChance(t *testing.T) {
	told := map[string]int{}
	for seed := range int64(60) {
		c := newChance(seed, 1+int(seed%7), seed%2 == 1)
		real, want := sets.New[int](), &model[int]{}
		for step := range 300 {
			do := c.step(step)
			got, wanted := do.do(real), do.do(want)
			if got != wanted {
				t.Fatal(seed, step, do.name, "told", got, "wanted", wanted)
			}
			told[got]++
			same(t, real, want, c.cells, seed, step, do.name)
		}
		if got, wanted := scopes[int](real, 0), scopes[int](want, 0); got != wanted {
			t.Fatal(seed, "left", got, "wanted", wanted)
		}
	}
	if len(told) != 5 { // OK, ErrArg, ErrStale, ErrScope, ErrLong (of a Mark)
		t.Fatal("the test itself", told)
	}
}

// same is whether s and want tell the same, of these cells above all.
func same(t *testing.T, s, want face[int], cells []int, what ...any) {
	t.Helper()
	if got, wanted := whole(s, 0), whole(want, 0); got != wanted {
		t.Fatal("tells", got, "wanted", wanted, what)
	}
	for _, i := range cells {
		version, isRead := s.Seen(i)
		v, isWritten := s.Value(i)
		wantVersion, wantRead := want.Seen(i)
		wantV, wantWritten := want.Value(i)
		if version != wantVersion || isRead != wantRead || v != wantV || isWritten != wantWritten {
			t.Fatal(i, version, isRead, v, isWritten, "wanted", wantVersion, wantRead, wantV, wantWritten, what)
		}
	}
}

// P15.1 to P15.4: the same on as many cells as fill the sets; all is told now and then, and as the scopes are undone at the end.
func TestManyCellsByChance(t *testing.T) {
	fullReads, fullWrites := 0, 0
	for seed := range int64(8) {
		c := newChance(seed, 257+int(seed)*40, seed%2 == 1)
		real, want := sets.New[int](), &model[int]{}
		for step := range 3000 {
			do := c.step(step)
			if step%7 != 0 && do.name == "Undo" { // lest so much is undone that the writes are never full
				do = keeping()
			}
			if got, wanted := do.do(real), do.do(want); got != wanted {
				t.Fatal(seed, step, do.name, "told", got, "wanted", wanted)
			}
			if step%100 == 0 {
				same(t, real, want, c.cells, seed, step, do.name)
			}
			fullReads += len(real.Reads()) / 256
			fullWrites += len(real.Writes()) / 256
		}
		for want.Depth() > 0 {
			same(t, real, want, c.cells, seed, "at the end")
			if real.Undo() != want.Undo() {
				t.Fatal(seed)
			}
		}
		same(t, real, want, c.cells, seed, "at the end")
	}
	if fullReads < 1000 || fullWrites < 1000 {
		t.Fatal("the test itself", fullReads, fullWrites)
	}
}
