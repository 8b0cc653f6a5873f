package after_test

import (
	"math/rand"
	"testing"

	"ledgerstone/after"
	"ledgerstone/api"
)

// fate is what has come of an action, as the calls around it told; no model is asked.
type fate struct {
	owner   int
	at      int   // the step of its Later
	commit  int   // the step of the first Commit of its owner behind that; 0, if there was none
	version int64 // of that Commit
	told    bool
}

// crowd is owners that put off, commit, drop and go back by chance.
type crowd struct {
	*rand.Rand
	t     *testing.T
	q     *after.Queue[int]
	fates []fate // an action is its place here
	now   int
	count map[string]int
}

func (c *crowd) later(owner int) {
	if err := c.q.Later(owner, len(c.fates)); err == api.ErrFull {
		c.count["full"]++
		return
	}
	c.fates = append(c.fates, fate{owner: owner, at: c.now})
}

// commit has each action that its owner has put off, since its last Commit, get its version; which of them are there still, Take will tell.
func (c *crowd) commit(owner int, version int64) {
	if _, err := c.q.Commit(owner, version); err != api.OK {
		c.t.Fatal(err)
	}
	for k := range c.fates {
		if f := &c.fates[k]; f.owner == owner && f.commit == 0 {
			f.commit, f.version = c.now, version
		}
	}
}

// take has each that is told be one that was put off, whose owner has committed behind it, with that version, and that was not told yet; they rise by versions and, of one version, by Commits, and of one Commit in the order in which they were put off.
func (c *crowd) take(upto int64) {
	var last after.Entry[int]
	for k, e := range c.q.Take(upto) {
		f := &c.fates[e.Action]
		if f.owner != e.Owner || f.commit <= f.at || f.version != e.Version || e.Version > upto || f.told {
			c.t.Fatal("told", e, "of", *f)
		}
		f.told = true
		c.count["told"]++
		if k > 0 {
			ahead := c.fates[last.Action]
			switch {
			case last.Version > e.Version,
				last.Version == e.Version && ahead.commit > f.commit,
				ahead.commit == f.commit && last.Action >= e.Action:
				c.t.Fatal("told", last, "ahead of", e)
			}
			if last.Version < e.Version {
				c.count["rising"]++
			}
		}
		last = e
	}
}

func (c *crowd) step() {
	c.now++
	owner := 1 + c.Intn(5)
	switch n := c.Intn(40); {
	case n < 24:
		c.later(owner)
	case n < 30:
		c.commit(owner, c.Int63n(8))
	case n < 32:
		c.count["dropped"] += c.q.Drop(owner)
	case n < 35:
		c.count["gone"] += c.q.Back(owner, c.Intn(5)-1)
	default:
		c.take(c.Int63n(10) - 1)
	}
}

// P19.4: each action that was put off is told once at most, and just if its owner has committed behind it; what one Take tells rises by versions. In the end nothing but what was dropped or went by a Back is missing.
func TestWhatFollows(t *testing.T) {
	t.Parallel()
	count := map[string]int{}
	for seed := range int64(100) {
		c := &crowd{Rand: rand.New(rand.NewSource(seed)), t: t, q: after.New[int](), count: map[string]int{}}
		for range 1000 {
			c.step()
		}
		for owner := 1; owner <= 5; owner++ {
			c.now++
			c.commit(owner, c.Int63n(8))
		}
		c.take(8)
		if c.count["told"]+c.count["dropped"]+c.count["gone"] != len(c.fates) {
			t.Fatal(seed, c.count, len(c.fates))
		}
		length(t, c.q, 0, 0)
		for what, n := range c.count {
			count[what] += n
		}
	}
	for _, what := range []string{"told", "dropped", "gone", "rising"} {
		if count[what] < 1000 {
			t.Fatal("the test itself", count)
		}
	}
}

// P19.4: what is never committed is never told.
func TestNoCommit(t *testing.T) {
	q := after.New[int]()
	r := rand.New(rand.NewSource(1))
	for k := range 3000 {
		q.Later(1+k%4, k)
		if r.Intn(3) == 0 {
			commits(t, q, 9, int64(k), 0)
		}
		if r.Intn(50) == 0 {
			q.Back(1+k%4, r.Intn(9))
		}
		takes(t, q, int64(k))
	}
	if n, m := q.Len(); n == 0 || m != 0 {
		t.Fatal(n, m)
	}
}

// P19.4: owners that begin, put off, and end as transactions do: with the next version, or without a trace; all of them told as soon as the clock allows, they rise over all the Takes.
func TestVersionsThatRise(t *testing.T) {
	t.Parallel()
	r := rand.New(rand.NewSource(2))
	q := after.New[int]()
	clock, next, last, told, committed := int64(0), 0, int64(0), 0, 0
	for step := range 20000 {
		owner := 1 + r.Intn(6)
		switch r.Intn(6) {
		case 0:
			clock++
			n, err := q.Commit(owner, clock)
			tells(t, err, api.OK, step)
			committed += n
		case 1:
			q.Drop(owner)
		case 2:
			for _, e := range q.Take(clock) {
				if e.Version < last {
					t.Fatal(step, e, last)
				}
				last = e.Version
				told++
			}
		default:
			q.Later(owner, next)
			next++
		}
	}
	told += len(q.Take(clock))
	if told != committed || told < 1000 {
		t.Fatal(told, committed)
	}
}
