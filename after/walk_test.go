package after_test

import (
	"fmt"
	"math"
	"math/rand"
	"slices"
	"testing"

	"ledgerstone/after"
)

// call is something that is asked of a queue or the model; what it answered is told.
type call struct {
	name string
	do   func(q face) string
}

func putting(owner, a int) call {
	return call{fmt.Sprint("Later ", owner, " ", a), func(q face) string { return fmt.Sprint(q.Later(owner, a)) }}
}

func committing(owner int, version int64) call {
	return call{fmt.Sprint("Commit ", owner, " ", version), func(q face) string { return fmt.Sprint(q.Commit(owner, version)) }}
}

func dropping(owner int) call {
	return call{fmt.Sprint("Drop ", owner), func(q face) string { return fmt.Sprint(q.Drop(owner)) }}
}

func marking(owner int) call {
	return call{fmt.Sprint("Mark ", owner), func(q face) string { return fmt.Sprint(q.Mark(owner)) }}
}

func backing(owner, mark int) call {
	return call{fmt.Sprint("Back ", owner, " ", mark), func(q face) string { return fmt.Sprint(q.Back(owner, mark)) }}
}

func taking(upto int64) call {
	return call{fmt.Sprint("Take ", upto), func(q face) string { return fmt.Sprint(q.Take(upto)) }}
}

func counting() call {
	return call{"Len", func(q face) string { return fmt.Sprint(q.Len()) }}
}

// whole is all that q tells of so many owners; q is empty behind that.
func whole(q face, owners int) string {
	out := fmt.Sprint(q.Len())
	for owner := 1; owner <= owners; owner++ {
		out += fmt.Sprint(" ", q.Mark(owner))
	}
	out += fmt.Sprint(" ", q.Take(math.MaxInt64))
	for owner := 1; owner <= owners; owner++ {
		q.Commit(owner, int64(owner))
	}
	return out + fmt.Sprint(" ", q.Take(math.MaxInt64))
}

// everyCall is each call of so many owners, with the actions 0 and 1, so many versions and marks, and what may not be beside them.
func everyCall(owners int, versions int64, most int) []call {
	out := []call{counting()}
	for owner := -1; owner <= owners; owner++ {
		out = append(out, putting(owner, 0), putting(owner, 1), dropping(owner), marking(owner))
		for version := int64(-1); version < versions; version++ {
			out = append(out, committing(owner, version))
		}
		for mark := -1; mark <= most+1; mark++ {
			out = append(out, backing(owner, mark))
		}
	}
	for upto := int64(-2); upto <= versions; upto++ {
		out = append(out, taking(upto))
	}
	return out
}

// way is calls that lead from a new queue to a state.
type way []call

func (w way) from(q face) face {
	for _, c := range w {
		c.do(q)
	}
	return q
}

func (w way) names() []string {
	var out []string
	for _, c := range w {
		out = append(out, c.name)
	}
	return out
}

// everyState asks each of these calls in each state that they lead to with at most so many actions, against the model; it tells how many states there are.
func everyState(t *testing.T, calls []call, owners, most int) int {
	t.Helper()
	seen := map[string]bool{whole(&model{}, owners): true}
	ways := []way{nil}
	for at := 0; at < len(ways); at++ {
		for _, c := range calls {
			real, want := ways[at].from(after.New[int]()), ways[at].from(&model{})
			if got, wanted := c.do(real), c.do(want); got != wanted {
				t.Fatal(ways[at].names(), c.name, "told", got, "wanted", wanted)
			}
			waiting, due := want.Len()
			state := whole(want, owners)
			if got := whole(real, owners); got != state {
				t.Fatal(ways[at].names(), c.name, "left", got, "wanted", state)
			}
			if !seen[state] && waiting+due <= most {
				seen[state] = true
				ways = append(ways, append(slices.Clone(ways[at]), c))
			}
		}
	}
	return len(ways)
}

// power is b multiplied n times by itself.
func power(b, n int) int {
	out := 1
	for range n {
		out *= b
	}
	return out
}

// spread is in how many ways n things are spread over so many places in a row.
func spread(n, places int) int {
	if places == 1 {
		return 1
	}
	ways := 0
	for first := range n + 1 {
		ways += spread(n-first, places-1)
	}
	return ways
}

// P19.1 to P19.4: each call in each state with few actions, of two kinds: of one owner and three versions, two owners and two versions, three owners and one version.
func TestEveryCallInEveryState(t *testing.T) {
	for _, bound := range []struct{ owners, versions, most int }{{1, 3, 4}, {2, 2, 4}, {3, 1, 3}} {
		t.Run(fmt.Sprint(bound), func(t *testing.T) {
			t.Parallel()
			// n wait, each of an owner's in their order; m are due, each of an owner and a version.
			want := 0
			for n := range bound.most + 1 {
				for m := range bound.most + 1 - n {
					want += spread(n, bound.owners) * power(2, n) * spread(m, bound.versions) * power(2*bound.owners, m)
				}
			}
			calls := everyCall(bound.owners, int64(bound.versions), bound.most)
			if got := everyState(t, calls, bound.owners, bound.most); got != want {
				t.Fatal("the test itself", got, want)
			}
		})
	}
}

// P19.1 to P19.4: every list of up to six calls, of two owners and two versions; the actions are told apart by when they were put off.
func TestEveryShortList(t *testing.T) {
	t.Parallel()
	kinds := []func(step int) call{
		func(step int) call { return putting(1, step) },
		func(step int) call { return putting(2, step) },
		func(int) call { return committing(1, 4) },
		func(int) call { return committing(1, 5) },
		func(int) call { return committing(2, 4) },
		func(int) call { return backing(1, 1) },
		func(int) call { return dropping(2) },
		func(int) call { return taking(4) },
	}
	lists := 0
	for n := range 7 {
		for code := range power(len(kinds), n) {
			real, want := face(after.New[int]()), face(&model{})
			var w way
			for step, rest := 0, code; step < n; step, rest = step+1, rest/len(kinds) {
				c := kinds[rest%len(kinds)](step)
				w = append(w, c)
				if got, wanted := c.do(real), c.do(want); got != wanted {
					t.Fatal(w.names(), "told", got, "wanted", wanted)
				}
			}
			if got, wanted := whole(real, 2), whole(want, 2); got != wanted {
				t.Fatal(w.names(), "left", got, "wanted", wanted)
			}
			lists++
		}
	}
	if lists != 1+8+64+512+4096+32768+262144 {
		t.Fatal("the test itself", lists)
	}
}

// chance is what calls by chance are made of.
type chance struct {
	*rand.Rand
	owners   int
	versions int64
}

func newChance(seed int64, owners int, versions int64) chance {
	return chance{rand.New(rand.NewSource(seed)), owners, versions}
}

// owner is one of those, and now and then none or a far one.
func (c chance) owner() int {
	if c.Intn(40) == 0 {
		l := append(noOwners(), math.MaxInt)
		return l[c.Intn(len(l))]
	}
	return 1 + c.Intn(c.owners)
}

func (c chance) version() int64 {
	if c.Intn(40) == 0 {
		l := append(noVersions(), someVersions()...)
		return l[c.Intn(len(l))]
	}
	return c.Int63n(c.versions)
}

// step is one call by chance.
func (c chance) step(a int) call {
	switch k := c.Intn(100); {
	case k < 55:
		return putting(c.owner(), a)
	case k < 68:
		return committing(c.owner(), c.version())
	case k < 72:
		return dropping(c.owner())
	case k < 82:
		return backing(c.owner(), c.Intn(8)-1)
	case k < 90:
		return marking(c.owner())
	case k < 94:
		return counting()
	}
	return taking(c.version())
}

// P19.1 to P19.4: many calls by chance against the model.
func TestCallsByChance(t *testing.T) {
	t.Parallel()
	told := map[string]int{}
	for seed := range int64(200) {
		c := newChance(seed, 1+int(seed%6), 1+seed%9)
		real, want := face(after.New[int]()), face(&model{})
		for step := range 400 {
			do := c.step(step)
			got, wanted := do.do(real), do.do(want)
			if got != wanted {
				t.Fatal(seed, step, do.name, "told", got, "wanted", wanted)
			}
			told[got]++
			n, m := real.Len()
			if wantN, wantM := want.Len(); n != wantN || m != wantM {
				t.Fatal(seed, step, do.name, "left", n, m, "wanted", wantN, wantM)
			}
		}
		if got, wanted := whole(real, c.owners), whole(want, c.owners); got != wanted {
			t.Fatal(seed, "left", got, "wanted", wanted)
		}
	}
	ok, refused := fmt.Sprint(after.New[int]().Later(1, 0)), fmt.Sprint(after.New[int]().Later(0, 0))
	if told[ok] < 10000 || told[refused] < 100 || len(told) < 1000 {
		t.Fatal("the test itself", told[ok], told[refused], len(told))
	}
}

// P19.1 to P19.4: the same with so much put off that the queue is full again and again.
func TestFullQueuesByChance(t *testing.T) {
	t.Parallel()
	full := 0
	for seed := range int64(4) {
		c := newChance(seed, 1+int(seed)*3, 3+seed)
		real, want := face(after.New[int]()), face(&model{})
		for step := range 6000 {
			do := c.step(step)
			if c.Intn(60) != 0 && do.name[0] != 'C' { // lest so much goes that it never is full
				do = putting(c.owner(), step)
			}
			if got, wanted := do.do(real), do.do(want); got != wanted {
				t.Fatal(seed, step, do.name, "told", got, "wanted", wanted)
			}
			if n, m := real.Len(); n+m == 1024 {
				full++
			}
		}
		if got, wanted := whole(real, c.owners), whole(want, c.owners); got != wanted {
			t.Fatal(seed, "left", got, "wanted", wanted)
		}
	}
	if full < 500 {
		t.Fatal("the test itself", full)
	}
}
