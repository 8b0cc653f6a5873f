package cell_test

import (
	"fmt"
	"math"
	"math/rand"
	"slices"
	"strings"
	"testing"

	"ledgerstone/api"
	"ledgerstone/cell"
)

// call is something that is asked of a memory or a model; what it answered is told.
type call struct {
	name string
	do   func(m face[int]) string
}

func advance() call {
	return call{"Advance", func(m face[int]) string { return fmt.Sprint(m.Advance()) }}
}

func load(i int) call {
	return call{fmt.Sprint("Load ", i), func(m face[int]) string { return fmt.Sprint(m.Load(i)) }}
}

func fill(i, v int) call {
	return call{fmt.Sprint("Fill ", i, " ", v), func(m face[int]) string { return fmt.Sprint(m.Fill(i, v)) }}
}

func lock(i, owner int) call {
	return call{fmt.Sprint("Lock ", i, " ", owner), func(m face[int]) string { return fmt.Sprint(m.Lock(i, owner)) }}
}

func unlock(i, owner int) call {
	return call{fmt.Sprint("Unlock ", i, " ", owner), func(m face[int]) string { return fmt.Sprint(m.Unlock(i, owner)) }}
}

func publish(i, owner, v int, version int64) call {
	return call{fmt.Sprint("Publish ", i, " ", owner, " ", v, " ", version), func(m face[int]) string { return fmt.Sprint(m.Publish(i, owner, v, version)) }}
}

func owned(owner int) call {
	return call{fmt.Sprint("Owned ", owner), func(m face[int]) string { return fmt.Sprint(m.Owned(owner)) }}
}

// everyCall is each call of a memory of two cells, with the values 1 and 2, the owners 1 and 2, versions up to 3, and what may not be beside them.
func everyCall() []call {
	out := []call{advance()}
	for i := -1; i <= 2; i++ {
		out = append(out, load(i), fill(i, 1), fill(i, 2))
		for owner := -1; owner <= 2; owner++ {
			out = append(out, lock(i, owner), unlock(i, owner))
			for version := int64(-1); version <= 4; version++ {
				out = append(out, publish(i, owner, 1, version), publish(i, owner, 2, version))
			}
		}
	}
	for owner := -1; owner <= 3; owner++ {
		out = append(out, owned(owner))
	}
	return out
}

// way is calls that lead from a new memory to a state.
type way []call

func (w way) from(m face[int]) face[int] {
	for _, c := range w {
		c.do(m)
	}
	return m
}

// P14.1 to P14.4: each call in each state that two cells come to while the clock is at most 2, against the model.
func TestEveryCallInEveryState(t *testing.T) {
	calls := everyCall()
	start := &model[int]{size: 2}
	seen := map[string]int{whole[int](start): 0}
	ways := []way{nil}
	for at := 0; at < len(ways); at++ {
		for _, c := range calls {
			real, want := ways[at].from(made[int](t, 2)), ways[at].from(&model[int]{size: 2})
			if got, wanted := c.do(real), c.do(want); got != wanted {
				t.Fatal(ways[at].names(), c.name, "told", got, "wanted", wanted)
			}
			state := whole(want)
			if got := whole(real); got != state {
				t.Fatal(ways[at].names(), c.name, "left", got, "wanted", state)
			}
			if _, known := seen[state]; !known && want.Clock() <= 2 {
				seen[state] = len(ways)
				ways = append(ways, append(slices.Clone(ways[at]), c))
			}
		}
	}
	if len(ways) != 9*9+15*15+21*21 { // a cell: nine ways ahead of its first version, six more for each version
		t.Fatal("the test itself", len(ways))
	}
}

func (w way) names() []string {
	var out []string
	for _, c := range w {
		out = append(out, c.name)
	}
	return out
}

// chance is what calls by chance are made of.
type chance struct {
	*rand.Rand
	size int
	far  bool // numbers at the edges come up, too
}

func (c chance) cell() int {
	if c.far && c.Intn(20) == 0 {
		l := noCells(c.size)
		return l[c.Intn(len(l))]
	}
	return c.Intn(c.size)
}

func (c chance) owner() int {
	if c.far && c.Intn(10) == 0 {
		l := append(noOwners(), owners()...)
		return l[c.Intn(len(l))]
	}
	return 1 + c.Intn(3)
}

func (c chance) version(clock int64) int64 {
	if c.far && c.Intn(10) == 0 {
		return []int64{math.MinInt64, -1, 0, clock + 1<<32, math.MaxInt64}[c.Intn(5)]
	}
	return clock + 1 - c.Int63n(4)
}

// call is one of m by chance; values are unlike any that came ahead. Often it is by who has the cell, lest one with a rare number keeps it for ever.
func (c chance) call(step int, m face[int]) call {
	i, owner, v := c.cell(), c.owner(), step+1
	if _, _, holder, _ := m.Load(i); holder > 0 && c.Intn(3) == 0 {
		owner = holder
	}
	switch k := c.Intn(100); {
	case k < 12:
		return advance()
	case k < 15:
		return load(i)
	case k < 25:
		return fill(i, v)
	case k < 50:
		return lock(i, owner)
	case k < 65:
		return unlock(i, owner)
	case k < 95:
		return publish(i, owner, v, c.version(m.Clock()))
	}
	return owned(owner)
}

// P14.1 to P14.4: many calls by chance against the model, with few cells and many, at the clock's beginning and up to its end.
func TestCallsByChance(t *testing.T) {
	for seed := range int64(90) {
		for _, start := range []int64{0, 1 << 32, 1<<40 - 10} {
			size := 1 + int(seed%9)
			c := chance{rand.New(rand.NewSource(seed)), size, seed%2 == 1}
			real := made[int](t, size)
			cell.SetClock(real, start)
			want := &model[int]{size: size, start: start}
			for step := range 400 {
				do := c.call(step, want)
				if got, wanted := do.do(real), do.do(want); got != wanted {
					t.Fatal(seed, start, step, do.name, "told", got, "wanted", wanted)
				}
				if got, wanted := whole(real), whole(want); got != wanted {
					t.Fatal(seed, start, step, do.name, "left", got, "wanted", wanted)
				}
			}
			if start > 1<<39 && want.Clock() != 1<<40 || !want.did(unlocked) || !want.did(published) {
				t.Fatal("the test itself", seed, start, want.Clock())
			}
		}
	}
}

// P14.1 to P14.4: the same with as many cells as there may be; all of them are held against the model at the end.
func TestManyCellsByChance(t *testing.T) {
	for seed := range int64(3) {
		c := chance{rand.New(rand.NewSource(seed)), 1024, seed == 1}
		real, want := made[int](t, 1024), &model[int]{size: 1024}
		for step := range 6000 {
			do := c.call(step, want)
			if got, wanted := do.do(real), do.do(want); got != wanted {
				t.Fatal(seed, step, do.name, "told", got, "wanted", wanted)
			}
		}
		if got, wanted := whole(real), whole(want); got != wanted {
			t.Fatal(seed, "left", got, "wanted", wanted)
		}
	}
}

// follows is whether a cell may have changed so by that call, which told that, while the clock is clock.
func follows(before, after look, did call, told string, i int, clock int64) bool {
	switch {
	case after.version < before.version || after.version > clock:
		return false
	case after.version > before.version:
		return strings.HasPrefix(did.name, fmt.Sprint("Publish ", i, " ")) && strings.HasSuffix(did.name, fmt.Sprint(" ", after.value, " ", after.version)) && told == fmt.Sprint(api.OK)
	case after.value != before.value:
		return after.version == 0 && did.name == fmt.Sprint("Fill ", i, " ", after.value) && told == fmt.Sprint(api.OK)
	}
	return true
}

// look is what a cell has.
type look struct {
	value   int
	version int64
}

// P14.5: whatever is called, a cell's version never falls and is at most the clock; its value changes with its version alone, but for a Fill at version 0. No model is asked.
func TestWhatFollows(t *testing.T) {
	fills, publishes := 0, 0
	for seed := range int64(40) {
		c := chance{rand.New(rand.NewSource(seed)), 1 + int(seed%6), seed%2 == 1}
		m := made[int](t, c.size)
		cells := make([]look, c.size)
		for step := range 4000 {
			do := c.call(step, m)
			told := do.do(m)
			for i, before := range cells {
				value, version, _, err := m.Load(i)
				after := look{value, version}
				if err != api.OK || !follows(before, after, do, told, i, m.Clock()) {
					t.Fatal(seed, step, do.name, told, i, before, after, m.Clock(), err)
				}
				switch {
				case before.version != version:
					publishes++
				case before.value != value:
					fills++
				}
				cells[i] = after
			}
		}
	}
	if fills < 20 || publishes < 2000 {
		t.Fatal("the test itself", fills, publishes)
	}
}
