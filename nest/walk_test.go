package nest_test

import (
	"math/rand"
	"strings"
	"testing"

	"ledgerstone/api"
)

// small is the deeds that have no bodies, one of each kind.
func small() []deed {
	return []deed{
		{name: "Write", cell: 0, value: 50},
		{name: "Write", cell: 1, value: 51},
		{name: "Write", cell: 3, value: 53},
		{name: "Read", cell: 1},
		{name: "Read", cell: 3},
		{name: "Mark"},
		{name: "Keep"},
		{name: "Undo"},
		{name: "Step"},
		{name: "Abort"},
	}
}

// ahead is deeds that leave so many scopes open, with cell 0 written in each.
func ahead(depth int) []deed {
	out := []deed{{name: "Write", cell: 0, value: 20}}
	for k := range depth {
		out = append(out, deed{name: "Mark"}, deed{name: "Write", cell: 0, value: 21 + k})
	}
	return out
}

// each hands on every list of n of these; the list is the same memory each time.
func each[T any](of []T, n int, do func(l []T)) {
	l := make([]T, n)
	var at func(k int)
	at = func(k int) {
		if k == n {
			do(l)
			return
		}
		for _, v := range of {
			l[k] = v
			at(k + 1)
		}
	}
	at(0)
}

// P17.1: Scope of every body of up to three deeds, and of four without scopes ahead, at OK and at an error, against the model.
func TestEveryShortBody(t *testing.T) {
	t.Parallel()
	count := 0
	for _, depth := range []int{0, 1, 2, 7, 8} {
		for n := range 5 {
			if n == 4 && depth != 0 {
				continue
			}
			each(small(), n, func(l []deed) {
				for _, err := range []api.Errno{api.OK, api.ErrIO} {
					scope := deed{name: "Scope", plans: []*plan{{deeds: l, tells: err}}}
					agrees(t, append(ahead(depth), scope, deed{name: "Write", cell: 2, value: 52}))
					count++
				}
			})
		}
	}
	if count != 2*(5*1111+10000) {
		t.Fatal("the test itself", count)
	}
}

// P17.1: a Scope with a Scope in it, each with a deed or two around and within, against the model.
func TestEveryScopeInScope(t *testing.T) {
	t.Parallel()
	for _, depth := range []int{0, 6} {
		each(small(), 3, func(l []deed) {
			for k := range 8 {
				errs := []api.Errno{api.OK, api.ErrIO}
				inner := deed{name: "Scope", plans: []*plan{{deeds: []deed{{name: "Write", cell: 2, value: 60}, l[1]}, tells: errs[k%2]}}}
				outer := deed{name: "Scope", plans: []*plan{{deeds: []deed{l[0], inner, l[2]}, tells: errs[k/2%2], handsOn: k/4 == 1}}}
				agrees(t, append(ahead(depth), outer))
			}
		})
	}
}

// bodies is bodies of many kinds, a nil one too.
func bodies() []*plan {
	w := deed{name: "Write", cell: 0, value: 70}
	v := deed{name: "Write", cell: 1, value: 71}
	mark, keep, undo := deed{name: "Mark"}, deed{name: "Keep"}, deed{name: "Undo"}
	out := []*plan{nil}
	for _, err := range []api.Errno{api.OK, api.ErrFull} {
		for _, l := range [][]deed{{}, {w}, {w, mark, v}, {w, keep, v}, {v, undo}, {keep, keep, w}, {undo, mark, v}, {w, {name: "Abort"}}, {{name: "Step"}}} {
			out = append(out, &plan{deeds: l, tells: err})
		}
	}
	return out
}

// P17.2: All and First of every list of up to three such bodies, with as many scopes open as there may be and fewer, against the model.
func TestEveryListOfBodies(t *testing.T) {
	t.Parallel()
	for _, depth := range []int{0, 1, 6, 7, 8} {
		for n := range 4 {
			if n == 3 && depth != 0 && depth != 6 {
				continue
			}
			each(bodies(), n, func(l []*plan) {
				for _, name := range []string{"All", "First"} {
					agrees(t, append(ahead(depth), deed{name: name, plans: l}, deed{name: "Write", cell: 2, value: 52}))
				}
			})
		}
	}
}

// chance is what bodies by chance are made of.
type chance struct {
	*rand.Rand
	wild bool // scopes are closed that others opened, and the transaction is ended in the midst, rather often
}

func (c chance) errno() api.Errno {
	if c.Intn(3) > 0 {
		return api.OK
	}
	return errnos()[c.Intn(len(errnos()))]
}

// plan is a body by chance, with bodies in it down to that level.
func (c chance) plan(levels int) *plan {
	if c.Intn(25) == 0 {
		return nil
	}
	out := &plan{tells: c.errno(), handsOn: c.Intn(3) == 0}
	for range c.Intn(5) {
		out.deeds = append(out.deeds, c.deed(levels))
	}
	return out
}

func (c chance) deed(levels int) deed {
	rare := 60
	if c.wild {
		rare = 6
	}
	switch n := c.Intn(100); {
	case c.Intn(rare) == 0:
		return small()[4+c.Intn(6)]
	case n < 25:
		return deed{name: "Write", cell: c.Intn(cells), value: 100 + c.Intn(100)}
	case n < 40:
		return deed{name: "Read", cell: c.Intn(cells - 1)}
	case n < 50 || levels == 0:
		return deed{name: "Mark"}
	case n < 70:
		return deed{name: "Scope", plans: []*plan{c.plan(levels - 1)}}
	}
	out := deed{name: []string{"All", "First"}[c.Intn(2)]}
	for range c.Intn(4) {
		out.plans = append(out.plans, c.plan(levels-1))
	}
	return out
}

// P17.1, P17.2: many bodies by chance, nested, against the model; each error comes up that there is.
func TestBodiesByChance(t *testing.T) {
	t.Parallel()
	seen := map[string]int{}
	for seed := range int64(30000) {
		c := chance{rand.New(rand.NewSource(seed)), seed%2 == 0}
		deeds := ahead(c.Intn(9))
		for range 4 {
			deeds = append(deeds, c.deed(1+c.Intn(9)))
		}
		for _, line := range agrees(t, deeds) {
			what, _, _ := strings.Cut(line, ": ")
			seen[what]++
		}
	}
	for _, what := range []string{"Scope 0 0", "Scope 0 1", "Scope 0 3", "Scope 0 4", "Scope 0 132", "Scope 0 136", "All 0 0", "All 1 1", "All 0 3", "All 2 0", "All 2 4", "All 1 132", "All 1 136", "First 0 0", "First 2 0", "First 2 1", "First 0 2", "First 3 3", "First 3 4", "First 1 132", "First 2 136"} {
		if seen[what] < 20 {
			t.Fatal("the test itself", what, seen[what])
		}
	}
}
