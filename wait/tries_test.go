package wait_test

import (
	"math/rand"
	"slices"
	"strings"
	"testing"

	"ledgerstone/api"
)

// small is deeds that have no bodies, one of each kind.
func small() []deed {
	return []deed{
		{name: "Write", cell: 0, value: 50},
		{name: "Write", cell: 1, value: 51},
		{name: "Write", cell: 3, value: 53},
		{name: "Read", cell: 1},
		{name: "Read", cell: 3},
		{name: "Mark"},
		{name: "Keep"},
		{name: "Undo"},
		{name: "Step"},
		{name: "Abort"},
	}
}

// plans is every body of up to n small deeds that tells one of these.
func plans(n int, tells ...api.Errno) []*plan {
	lists := [][]deed{nil}
	for at := 0; at < len(lists) && len(lists[at]) < n; at++ {
		for _, d := range small() {
			lists = append(lists, append(slices.Clone(lists[at]), d))
		}
	}
	var out []*plan
	for _, l := range lists {
		for _, err := range tells {
			out = append(out, &plan{deeds: l, tells: err})
		}
	}
	return out
}

// P18.3: OrElse of every body of up to two deeds, or else every one of up to one, with no scope open, some, and as many as there may be, against the model.
func TestEveryShortOne(t *testing.T) {
	t.Parallel()
	ones := plans(2, api.OK, api.ErrWait, api.ErrFull)
	others := plans(1, api.OK, api.ErrWait, api.ErrIO)
	if len(ones) != 333 || len(others) != 33 {
		t.Fatal("the test itself", len(ones), len(others))
	}
	for _, depth := range []int{0, 1, 7, 8} {
		for _, one := range append(ones, nil) {
			for _, other := range append(others, nil) {
				agrees(t, append(ahead(depth), orElseDeed(one, other)))
			}
		}
	}
}

// P18.3: OrElse of every body of up to one deed that waits, or else every one of up to two, against the model.
func TestEveryShortOther(t *testing.T) {
	t.Parallel()
	for _, depth := range []int{0, 2, 7} {
		for _, one := range plans(1, api.ErrWait) {
			for _, other := range plans(2, api.OK, api.ErrWait, api.ErrFull) {
				agrees(t, append(ahead(depth), orElseDeed(one, other), deed{name: "Write", cell: 2, value: 52}))
			}
		}
	}
}

// P18.3: OrElse in OrElse, on either side, of bodies of a deed each, against the model.
func TestEveryOrElseWithin(t *testing.T) {
	t.Parallel()
	bodies := []*plan{}
	for k, d := range []deed{small()[0], small()[3], small()[5], small()[6], small()[9]} {
		for _, err := range []api.Errno{api.OK, api.ErrWait, api.ErrFull} {
			bodies = append(bodies, &plan{deeds: []deed{{name: "Write", cell: 2, value: 60 + k}, d}, tells: err})
		}
	}
	for _, a := range bodies {
		for _, b := range bodies {
			for _, c := range bodies {
				inner := &plan{deeds: []deed{orElseDeed(a, b)}, handsOn: true}
				agrees(t, append(ahead(1), orElseDeed(inner, c)))
				agrees(t, append(ahead(6), orElseDeed(c, inner)))
			}
		}
	}
}

// dice is what bodies by chance are made of.
type dice struct {
	*rand.Rand
	wild bool // scopes are closed that others opened, and the transaction is ended in the midst, rather often
}

// plan is a body by chance, with bodies in it down to that level.
func (c dice) plan(levels int) *plan {
	if c.Intn(30) == 0 {
		return nil
	}
	out := &plan{handsOn: c.Intn(2) == 0}
	switch c.Intn(5) {
	case 0, 1:
		out.tells = api.ErrWait
	case 2:
		out.tells = errnos()[c.Intn(len(errnos()))]
	}
	for range c.Intn(4) {
		out.deeds = append(out.deeds, c.deed(levels))
	}
	return out
}

func (c dice) deed(levels int) deed {
	rare := 60
	if c.wild {
		rare = 6
	}
	switch n := c.Intn(100); {
	case c.Intn(rare) == 0:
		return small()[4+c.Intn(6)]
	case n < 30:
		return deed{name: "Write", cell: c.Intn(cells), value: 100 + c.Intn(100)}
	case n < 40:
		return deed{name: "Read", cell: c.Intn(cells - 1)}
	case n < 45 || levels == 0:
		return deed{name: "Mark"}
	case n < 55:
		return deed{name: "Scope", plans: []*plan{c.plan(levels - 1)}}
	}
	return orElseDeed(c.plan(levels-1), c.plan(levels-1))
}

// P18.3: many bodies by chance, nested, against the model; each error comes up that there is.
func TestBodiesByChance(t *testing.T) {
	t.Parallel()
	tally := map[string]int{}
	for seed := range int64(15000) {
		c := dice{rand.New(rand.NewSource(seed)), seed%2 == 0}
		deeds := ahead(c.Intn(9))
		for range 4 {
			deeds = append(deeds, c.deed(1+c.Intn(9)))
		}
		for _, line := range agrees(t, deeds) {
			what, _, _ := strings.Cut(line, ": ")
			tally[what]++
		}
	}
	for _, what := range []string{"OrElse 0 0", "OrElse 0 1", "OrElse 0 3", "OrElse 0 5", "OrElse 0 132", "OrElse 0 135", "OrElse 0 136"} {
		if tally[what] < 100 {
			t.Fatal("the test itself", what, tally[what])
		}
	}
}
