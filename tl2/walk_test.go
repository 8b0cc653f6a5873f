package tl2_test

import (
	"fmt"
	"math/rand"
	"slices"
	"testing"

	"ledgerstone/api"
	"ledgerstone/tl2"
)

// outsider is an owner that no transaction has.
const outsider = 1000

// world is a memory, and transactions over it by their places: all of it the program's, or all the model's.
type world struct {
	m     memory[int]
	begin func(owner int) face[int]
	txs   []face[int] // nil: none was begun at that place
}

func realWorld(t *testing.T, cells, places int, clock int64) *world {
	m := made[int](t, cells)
	setClock(m, clock)
	return &world{m, func(owner int) face[int] { return begun(t, m, owner) }, make([]face[int], places)}
}

func modelWorld(cells, places int, clock int64) *world {
	p := newPlain(cells, clock)
	return &world{p, func(owner int) face[int] { return beginModel(p, owner) }, make([]face[int], places)}
}

// isOver is whether no transaction goes on at place k.
func (w *world) isOver(k int) bool {
	x := w.txs[k]
	return x == nil || x.Status() == tl2.Done || x.Status() == tl2.Failed
}

// whole is all that is told of it.
func (w *world) whole() string {
	out := wholeMemory(w.m)
	for _, x := range w.txs {
		if x != nil {
			out += whole(x, w.m.Size())
		}
	}
	return out
}

// state is all that a world of the model is, what is not told too.
func (w *world) state() string {
	out := w.whole()
	for _, x := range w.txs {
		if x, ok := x.(*model); ok {
			out += fmt.Sprintln(x.owner, x.beginning, x.steps, scopes(x.deeds))
		} else {
			out += "none\n"
		}
	}
	return out
}

// copied is a world of the model, apart from w.
func (w *world) copied() *world {
	out := modelWorld(w.m.Size(), len(w.txs), w.m.Clock())
	p := out.m.(*plain)
	copy(p.cells, w.m.(*plain).cells)
	for k, x := range w.txs {
		if x, ok := x.(*model); ok {
			same := *x
			same.p, same.deeds = p, slices.Clone(x.deeds)
			out.txs[k] = &same
		}
	}
	return out
}

// call is something that is asked of a world; what it answered is told.
type call struct {
	name string
	do   func(w *world) string
}

// of is a call of the transaction at place k, if there is one.
func of(k int, name string, ask func(x face[int]) string) call {
	return call{fmt.Sprint(name, " of ", k), func(w *world) string {
		if w.txs[k] == nil {
			return "none"
		}
		return ask(w.txs[k])
	}}
}

func begin(k, owner int) call {
	return call{fmt.Sprint("Begin ", k, " ", owner), func(w *world) string {
		w.txs[k] = w.begin(owner)
		return "OK"
	}}
}

// beginOnce is a Begin where none was.
func beginOnce(k int) call {
	return call{fmt.Sprint("Begin ", k, " once"), func(w *world) string {
		if w.txs[k] == nil {
			w.txs[k] = w.begin(1 + k)
		}
		return "OK"
	}}
}

// beginAgain is a Begin where none is that is not over: two of one owner would be beyond what is promised.
func beginAgain(k int) call {
	return call{fmt.Sprint("Begin ", k, " again"), func(w *world) string {
		if w.isOver(k) {
			w.txs[k] = w.begin(1 + k)
		}
		return "OK"
	}}
}

func read(k, i int) call {
	return of(k, fmt.Sprint("Read ", i), func(x face[int]) string { return fmt.Sprint(x.Read(i)) })
}

func write(k, i, v int) call {
	return of(k, fmt.Sprint("Write ", i, " ", v), func(x face[int]) string { return fmt.Sprint(x.Write(i, v)) })
}

func mark(k int) call {
	return of(k, "Mark", func(x face[int]) string { return fmt.Sprint(x.Mark()) })
}

func keep(k int) call {
	return of(k, "Keep", func(x face[int]) string { return fmt.Sprint(x.Keep()) })
}

func undo(k int) call {
	return of(k, "Undo", func(x face[int]) string { return fmt.Sprint(x.Undo()) })
}

func step(k int) call {
	return of(k, "Step", func(x face[int]) string { return fmt.Sprint(x.Step()) })
}

func abort(k int) call {
	return of(k, "Abort", func(x face[int]) string { return fmt.Sprint(x.Abort()) })
}

func advance() call {
	return call{"Advance", func(w *world) string { return fmt.Sprint(w.m.Advance()) }}
}

func fill(i, v int) call {
	return call{fmt.Sprint("Fill ", i, " ", v), func(w *world) string { return fmt.Sprint(w.m.Fill(i, v)) }}
}

func lock(i int) call {
	return call{fmt.Sprint("Lock ", i), func(w *world) string { return fmt.Sprint(w.m.Lock(i, outsider)) }}
}

func unlock(i int) call {
	return call{fmt.Sprint("Unlock ", i), func(w *world) string { return fmt.Sprint(w.m.Unlock(i, outsider)) }}
}

// publish is with a version that is so far below the clock.
func publish(i, v int, below int64) call {
	return call{fmt.Sprint("Publish ", i, " ", v, " ", below), func(w *world) string {
		return fmt.Sprint(w.m.Publish(i, outsider, v, w.m.Clock()-below))
	}}
}

// way is calls that lead from a new world to a state.
type way []call

func (y way) from(w *world) *world {
	for _, c := range y {
		c.do(w)
	}
	return w
}

func (y way) names() []string {
	var out []string
	for _, c := range y {
		out = append(out, c.name)
	}
	return out
}

// everyState has each of these calls done in each state that they lead to, as long as it is within, and holds what is told against the model: how many states there are.
func everyState(t *testing.T, cells, places int, calls []call, within func(w *world) bool) int {
	t.Helper()
	worlds := []*world{modelWorld(cells, places, 0)}
	seen := map[string]int{worlds[0].state(): 0}
	ways := []way{nil}
	for at := 0; at < len(ways); at++ {
		for _, c := range calls {
			real, want := ways[at].from(realWorld(t, cells, places, 0)), worlds[at].copied()
			if got, wanted := c.do(real), c.do(want); got != wanted {
				t.Fatal(ways[at].names(), c.name, "told", got, "wanted", wanted)
			}
			if got, wanted := real.whole(), want.whole(); got != wanted {
				t.Fatal(ways[at].names(), c.name, "left", got, "wanted", wanted)
			}
			state := want.state()
			if _, known := seen[state]; !known && within(want) {
				seen[state] = len(ways)
				ways = append(ways, append(slices.Clone(ways[at]), c))
				worlds = append(worlds, want)
			}
		}
	}
	return len(ways)
}

// P16.2 to P16.6: each call in each state that two transactions over one cell come to, with a third one that goes on outside.
func TestEveryStateOfOneCell(t *testing.T) {
	t.Parallel()
	var calls []call
	for k := range 2 {
		calls = append(calls, beginAgain(k), read(k, 0), write(k, 0, 5+k), step(k), abort(k), read(k, 1), write(k, -1, 5))
	}
	calls = append(calls, lock(0), unlock(0), publish(0, 9, 0), publish(0, 9, 1), advance())
	n := everyState(t, 1, 2, calls, func(w *world) bool { return w.m.Clock() <= 1 })
	if n != 6524 {
		t.Fatal("the test itself", n)
	}
}

// P16.2 to P16.6: the same of one transaction over two cells, with scopes.
func TestEveryStateWithScopes(t *testing.T) {
	t.Parallel()
	calls := []call{beginAgain(0), mark(0), keep(0), undo(0), step(0), abort(0)}
	for i := range 2 {
		calls = append(calls, read(0, i), write(0, i, 5))
	}
	calls = append(calls, write(0, 0, 6), lock(0), unlock(0), publish(0, 9, 0), advance())
	n := everyState(t, 2, 1, calls, func(w *world) bool {
		return w.m.Clock() <= 1 && (w.txs[0] == nil || w.txs[0].Depth() <= 1)
	})
	if n != 12550 {
		t.Fatal("the test itself", n)
	}
}

// P16.2 to P16.6: the same of two transactions over two cells, each begun once.
func TestEveryStateOfTwoCells(t *testing.T) {
	t.Parallel()
	var calls []call
	for k := range 2 {
		calls = append(calls, step(k), abort(k))
		for i := range 2 {
			calls = append(calls, read(k, i), write(k, i, 5+k))
		}
		calls = append(calls, beginOnce(k))
	}
	n := everyState(t, 2, 2, calls, func(*world) bool { return true })
	if n != 28033 {
		t.Fatal("the test itself", n)
	}
}

// chance is what calls by chance are made of.
type chance struct {
	*rand.Rand
	cells, places int
	far           bool // numbers at the edges come up, too
}

func (c chance) cell() int {
	if c.far && c.Intn(20) == 0 {
		l := noCells(c.cells)
		return l[c.Intn(len(l))]
	}
	return c.Intn(c.cells)
}

// access is a call by chance of the transaction at place k, up to its end.
func (c chance) access(k, v int) call {
	i := c.cell()
	switch n := c.Intn(100); {
	case n < 30:
		return read(k, i)
	case n < 55:
		return write(k, i, v)
	case n < 60:
		return mark(k)
	case n < 63:
		return keep(k)
	case n < 66:
		return undo(k)
	case n < 68:
		return abort(k)
	}
	return step(k)
}

// outside is a call by chance of somebody who has no transaction.
func (c chance) outside(v int) call {
	i := c.Intn(c.cells)
	switch c.Intn(6) {
	case 0:
		return advance()
	case 1:
		return fill(i, v)
	case 2:
		return lock(i)
	case 3:
		return publish(i, v, c.Int63n(3))
	}
	return unlock(i)
}

// call is one by chance; a transaction that is over mostly makes way for one of the same owner.
func (c chance) call(w *world, v int) call {
	k := c.Intn(c.places)
	switch {
	case w.isOver(k) && c.Intn(4) > 0:
		return begin(k, 1+k)
	case c.Intn(10) == 0:
		return c.outside(v)
	case !w.isOver(k) && w.txs[k].Status() == tl2.Ending && c.Intn(3) > 0:
		return step(k)
	}
	return c.access(k, v)
}

// P16.1 to P16.6: many calls by chance of several transactions with unlike owners, and of others beside them, against the model; all is told behind each.
func TestCallsByChance(t *testing.T) {
	told := map[string]int{}
	for seed := range int64(120) {
		for _, start := range []int64{0, 1<<40 - 8} {
			c := chance{rand.New(rand.NewSource(seed)), 1 + int(seed%7), 1 + int(seed%5), seed%2 == 1}
			real, want := realWorld(t, c.cells, c.places, start), modelWorld(c.cells, c.places, start)
			for at := range 300 {
				do := c.call(want, at+1)
				got, wanted := do.do(real), do.do(want)
				if got != wanted {
					t.Fatal(seed, start, at, do.name, "told", got, "wanted", wanted)
				}
				if got, wanted := real.whole(), want.whole(); got != wanted {
					t.Fatal(seed, start, at, do.name, "left", got, "wanted", wanted)
				}
				told[do.name[:4]+" "+got[max(0, len(got)-16):]]++
			}
		}
	}
	for _, err := range []api.Errno{api.ErrBusy, api.ErrClock, api.ErrStale, api.ErrOver} {
		if told["Step "+fmt.Sprint(err)] < 100 {
			t.Fatal("the test itself", err, told)
		}
	}
}

// P16.2 to P16.4: the same over as many cells as there may be, with sets that get full: what is told is held against the model behind each call, all of it at the end.
func TestManyCellsByChance(t *testing.T) {
	long, finished := 0, 0
	for seed := range int64(6) {
		c := chance{rand.New(rand.NewSource(seed)), 1024, 2, seed%2 == 1}
		real, want := realWorld(t, c.cells, c.places, 0), modelWorld(c.cells, c.places, 0)
		begin(0, 1).do(real)
		begin(0, 1).do(want)
		begin(1, 2).do(real)
		begin(1, 2).do(want)
		for at := range 5200 {
			k, i := at%2, c.cell()
			own := i/2*2 + at%2 // each has half of the cells: neither is in the other's way, but for seeds 0 and 3
			do := read(k, own)
			switch {
			case at >= 3500:
				do = step(k)
			case at%4 > 1:
				do = write(k, own, at)
			case k == 0 && seed%3 == 0:
				do = read(k, i)
			}
			got, wanted := do.do(real), do.do(want)
			if got != wanted {
				t.Fatal(seed, at, do.name, "told", got, "wanted", wanted)
			}
			if len(got) > 2 && got[len(got)-2:] == " 3" {
				long++
			}
		}
		if got, wanted := real.whole(), want.whole(); got != wanted {
			t.Fatal(seed, "left", got, "wanted", wanted)
		}
		for _, x := range real.txs {
			if x.Status() == tl2.Done && len(x.Writes()) == 256 && len(x.Reads()) == 256 {
				finished++
			}
		}
	}
	if long < 1000 || finished < 3 {
		t.Fatal("the test itself", long, finished)
	}
}

// R1: transactions of one owner, of which nothing is promised but that no call panics, and each ends.
func TestOneOwnerForAll(t *testing.T) {
	for seed := range int64(200) {
		c := chance{rand.New(rand.NewSource(seed)), 1 + int(seed%4), 3, seed%2 == 1}
		w := realWorld(t, c.cells, c.places, 0)
		for at := range 300 {
			do := c.call(w, at+1)
			if do.name[:5] == "Begin" {
				do = begin(c.Intn(3), 1)
			}
			do.do(w)
		}
	}
}
