package wait_test

import (
	"math/rand"
	"slices"
	"testing"

	"ledgerstone/api"
	"ledgerstone/cell"
	"ledgerstone/tl2"
	"ledgerstone/wait"
)

// crowd is transactions that read, write, end and park, step by step; no model is asked.
type crowd struct {
	*rand.Rand
	t     *testing.T
	m     *cell.Memory[int]
	w     *wait.Watch[int]
	txs   []*tl2.Tx[int]
	last  []int64               // the version that each cell was published with last, as it was noticed
	waits map[int]map[int]int64 // by ids: the cells of a waiter, and the versions with which they were read
	due   map[int]bool          // the waiters of which a cell was published with another version
	count map[string]int
}

func newCrowd(t *testing.T, seed int64, cells int, count map[string]int) *crowd {
	t.Helper()
	m := empty[int](t, cells)
	c := &crowd{rand.New(rand.NewSource(seed)), t, m, watch(t, m), make([]*tl2.Tx[int], 5), make([]int64, cells), map[int]map[int]int64{}, map[int]bool{}, count}
	for k := range c.txs {
		c.begin(k)
	}
	return c
}

func (c *crowd) begin(k int) {
	x, err := tl2.Begin(c.m, k+1)
	done(c.t, err)
	c.txs[k] = x
}

// notice goes through the cells for what was published, and has all that wait for it be due.
func (c *crowd) notice() {
	for i := range c.last {
		version := versionOf(c.t, c.m, i)
		if version == c.last[i] {
			continue
		}
		c.last[i] = version
		for id, cells := range c.waits {
			if read, isThere := cells[i]; isThere && read != version {
				c.due[id] = true
				c.count["behind Park"]++
			}
		}
	}
}

// park has id wait with x, if it does not yet.
func (c *crowd) park(id int, x *tl2.Tx[int]) {
	if err := c.w.Park(id, x); err != api.OK {
		return
	}
	cells := map[int]int64{}
	for _, i := range x.Reads() {
		version, _ := x.Seen(i)
		cells[i] = version
		if c.last[i] != version {
			c.due[id] = true
			c.count["ahead of Park"]++
		}
	}
	if len(cells) == 0 {
		c.count["without cells"]++
	}
	c.waits[id] = cells
}

// ask holds what Changed tells against those that are due.
func (c *crowd) ask() {
	c.t.Helper()
	got := c.w.Changed()
	if len(got) != len(c.due) || !slices.IsSorted(got) {
		c.t.Fatal("told", got, "due", c.due)
	}
	for _, id := range got {
		if !c.due[id] || len(c.waits[id]) == 0 {
			c.t.Fatal("told", got, "due", c.due)
		}
		delete(c.due, id)
		delete(c.waits, id)
	}
	if len(c.w.Parked()) != len(c.waits) {
		c.t.Fatal(c.w.Parked(), c.waits)
	}
}

// step does something with one of the transactions.
func (c *crowd) step() {
	k := c.Intn(len(c.txs))
	x, i := c.txs[k], c.Intn(len(c.last))
	switch n := c.Intn(12); {
	case x.Status() == tl2.Done || x.Status() == tl2.Failed:
		if n < 4 {
			c.park(1+c.Intn(80), x)
		}
		c.begin(k)
	case x.Status() == tl2.Ending && n > 0:
		x.Step()
	case x.Status() == tl2.Ending:
		x.Abort()
	case n < 5:
		x.Read(i)
	case n < 7:
		x.Write(i, c.Int())
	case n < 9:
		c.park(1+c.Intn(80), x)
	case n < 11:
		x.Step()
	default:
		id := 1 + c.Intn(80)
		c.w.Forget(id)
		delete(c.due, id)
		delete(c.waits, id)
	}
	c.notice()
}

// P18.4: a waiter is told by the next Changed as soon as one of its cells was published with another version than it was read with, ahead of Park or behind it; one without cells never is. What is published is published by transactions.
func TestWhatFollows(t *testing.T) {
	t.Parallel()
	count := map[string]int{}
	for seed := range int64(60) {
		c := newCrowd(t, seed, 1+int(seed%7), count)
		for range 2000 {
			c.step()
			if seed%2 == 0 || c.Intn(50) == 0 {
				c.ask()
			}
		}
		c.ask()
	}
	for _, what := range []string{"ahead of Park", "behind Park", "without cells"} {
		if count[what] < 500 {
			t.Fatal("the test itself", count)
		}
	}
}

// P18.3, P18.4: who finds nothing on either side waits for both, and is told when one of them is there; done again behind that, it takes what there is.
func TestTakeOneOrOther(t *testing.T) {
	for which := range 2 {
		m := empty[int](t, 2)
		w := watch(t, m)
		take := func(x *tl2.Tx[int], i int) body {
			return func() api.Errno {
				v, err := x.Read(i)
				done(t, err, x.Write(i, 0))
				if v == 0 {
					return api.ErrWait
				}
				return api.OK
			}
		}
		x := begun(t, m)
		tells(t, wait.OrElse(x, take(x, 0), take(x, 1)), api.ErrWait)
		writes(t, x)
		parks(t, w, 1, x)
		done(t, x.Abort())
		changed(t, w)
		y := begun(t, m)
		done(t, y.Write(which, 7))
		steps(t, y, 3, tl2.Done)
		changed(t, w, 1)
		x = begun(t, m)
		tells(t, wait.OrElse(x, take(x, 0), take(x, 1)), api.OK)
		writes(t, x, which)
	}
}
