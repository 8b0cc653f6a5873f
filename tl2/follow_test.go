package tl2_test

import (
	"math/rand"
	"slices"
	"testing"

	"ledgerstone/api"
	"ledgerstone/cell"
	"ledgerstone/tl2"
)

// story is a transaction, and what its calls told: those that told OK.
type story struct {
	x         *tl2.Tx[int]
	beginning int64
	deeds     []deed
}

// told is a memory and all transactions over it; each value that is written is written once.
type told struct {
	m       *cell.Memory[int]
	first   []int // what the cells held ahead of all transactions
	stories []*story
	next    int
}

func newTold(t *testing.T, cells int) *told {
	t.Helper()
	out := &told{m: made[int](t, cells)}
	for i := range cells {
		out.first = append(out.first, -1-i)
		done(t, out.m.Fill(i, -1-i))
	}
	return out
}

// begin adds a transaction with an owner of its own.
func (w *told) begin(t *testing.T) *story {
	t.Helper()
	s := &story{x: begun(t, w.m, len(w.stories)+1), beginning: w.m.Clock()}
	w.stories = append(w.stories, s)
	return s
}

// does has s do a call of that name, and tells whether s is over behind it.
func (w *told) does(s *story, name string, i int) bool {
	d := deed{name: name, cell: i}
	err := api.ErrOver
	switch name {
	case "Read":
		d.value, err = s.x.Read(i)
	case "Write":
		w.next++
		d.value = w.next
		err = s.x.Write(i, d.value)
	case "Mark":
		err = s.x.Mark()
	case "Keep":
		err = s.x.Keep()
	case "Undo":
		err = s.x.Undo()
	case "Step":
		s.x.Step()
	case "Abort":
		s.x.Abort()
	}
	if err == api.OK {
		s.deeds = append(s.deeds, d)
	}
	return s.x.Status() == tl2.Done || s.x.Status() == tl2.Failed
}

// alone is what comes of the calls of s, done one by one over cells that hold these values: whether each Read tells what it told, and the cells behind it.
func (s *story) alone(cells []int) (bool, []int) {
	same := true
	for at, d := range s.deeds {
		if d.name != "Read" {
			continue
		}
		all := scopes(s.deeds[:at])
		v, isWritten := all[len(all)-1][d.cell]
		if !isWritten {
			v = cells[d.cell]
		}
		same = same && v == d.value
	}
	out := slices.Clone(cells)
	all := scopes(s.deeds)
	for i, v := range all[len(all)-1] {
		out[i] = v
	}
	return same, out
}

// writers is those that are Done with writes, by their versions.
func (w *told) writers(t *testing.T) []*story {
	t.Helper()
	var out []*story
	for _, s := range w.stories {
		if s.x.Status() == tl2.Done && len(s.x.Writes()) > 0 {
			out = append(out, s)
		}
	}
	slices.SortFunc(out, func(a, b *story) int { return int(a.x.Version() - b.x.Version()) })
	for k, s := range out {
		if k > 0 && s.x.Version() == out[k-1].x.Version() || s.x.Version() <= s.beginning || s.x.Version() > w.m.Clock() {
			t.Fatal("versions", k, s.x.Version(), s.beginning, w.m.Clock())
		}
	}
	return out
}

// at is what the cells hold behind all writers whose version is at most that.
func (w *told) at(writers []*story, version int64) []int {
	cells := w.first
	for _, s := range writers {
		if s.x.Version() <= version {
			_, cells = s.alone(cells)
		}
	}
	return cells
}

// holds is all that P16.7 says, where no transaction is ending any more.
func (w *told) holds(t *testing.T, what ...any) {
	t.Helper()
	writers := w.writers(t)
	for k, s := range w.stories {
		if same, _ := s.alone(w.at(writers, s.beginning)); !same {
			t.Fatal("not of one moment", what, k, s.beginning, s.deeds)
		}
		switch version := s.x.Version(); {
		case s.x.Status() != tl2.Done:
		case len(s.x.Writes()) > 0:
			if same, _ := s.alone(w.at(writers, version-1)); !same {
				t.Fatal("not one by one", what, k, version, s.deeds)
			}
		default:
			if same, _ := s.alone(w.at(writers, version)); !same || version != s.beginning {
				t.Fatal("not behind its version", what, k, version, s.deeds)
			}
		}
	}
	last := w.at(writers, w.m.Clock())
	for i, want := range last {
		version := int64(0)
		for _, s := range writers {
			if slices.Contains(s.x.Writes(), i) {
				version = s.x.Version()
			}
		}
		has(t, w.m, i, want, version, 0, what)
	}
	w.unseen(t, what...)
}

// unseen is that no value of one that failed, or has no version yet, was told to another one, or is in a cell.
func (w *told) unseen(t *testing.T, what ...any) {
	t.Helper()
	hidden := map[int]*story{}
	for _, s := range w.stories {
		if s.x.Status() == tl2.Done || s.x.Claimed() > 0 {
			continue
		}
		for _, d := range s.deeds {
			if d.name == "Write" {
				hidden[d.value] = s
			}
		}
	}
	for _, s := range w.stories {
		for _, d := range s.deeds {
			if by := hidden[d.value]; d.name == "Read" && by != nil && by != s {
				t.Fatal("seen too early, or of a failed one", what, d)
			}
		}
	}
	for i := range w.first {
		if v, _, _, _ := w.m.Load(i); hidden[v] != nil {
			t.Fatal("seen too early, or of a failed one", what, i, v)
		}
	}
}

// P16.7: transactions with unlike owners take their calls by chance; what follows holds at the end, and nothing of one that has failed, or has no version yet, is seen at any time. No model is asked.
func TestWhatFollows(t *testing.T) {
	count := map[string]int{}
	for seed := range int64(400) {
		r := rand.New(rand.NewSource(seed))
		w := newTold(t, 1+r.Intn(6))
		var going []*story
		names := []string{"Read", "Read", "Read", "Read", "Write", "Write", "Mark", "Keep", "Undo", "Step", "Step", "Step", "Abort"}
		if seed%2 == 0 { // longer ones, that are not aborted
			names = slices.Concat(names[:9], names[:6], names[:6], names[9:10])
		}
		places := 1 + r.Intn(5)
		for range 250 {
			for len(going) < places {
				going = append(going, w.begin(t))
			}
			k := r.Intn(len(going))
			name := names[r.Intn(len(names))]
			if going[k].x.Status() == tl2.Ending && r.Intn(20) > 0 {
				name = "Step"
			}
			if w.does(going[k], name, r.Intn(len(w.first))) {
				going = slices.Delete(going, k, k+1)
			}
			w.unseen(t, seed)
		}
		for _, s := range going {
			for s.x.Status() == tl2.Ending || len(s.deeds) > 3 && s.x.Status() == tl2.Open {
				w.does(s, "Step", 0)
			}
		}
		w.holds(t, seed)
		for _, s := range w.stories {
			switch {
			case s.x.Status() == tl2.Failed:
				count["failed"]++
			case len(s.x.Writes()) == 0 && len(s.x.Reads()) > 1:
				count["readers"]++
			case len(s.x.Writes()) > 0 && len(s.x.Reads()) > 0:
				count["writers"]++
			}
		}
	}
	for _, kind := range []string{"failed", "readers", "writers"} {
		if count[kind] < 500 {
			t.Fatal("the test itself", count)
		}
	}
}

// script is the calls of a transaction ahead of its end: R or W, and a cell.
type script []string

// play is these scripts with their calls taken in that order, by the scripts' numbers; each has a Begin ahead, and Steps behind up to its end.
func play(t *testing.T, scripts []script, order []int) (w *told, left []int) {
	t.Helper()
	w = newTold(t, 2)
	begun, at, over := map[int]*story{}, make([]int, len(scripts)), make([]bool, len(scripts))
	for _, k := range order {
		switch s := begun[k]; {
		case s == nil:
			begun[k] = w.begin(t)
		case at[k] < len(scripts[k]):
			name := map[byte]string{'R': "Read", 'W': "Write"}[scripts[k][at[k]][0]]
			over[k] = w.does(s, name, int(scripts[k][at[k]][1]-'0'))
			at[k]++
		default:
			over[k] = w.does(s, "Step", 0)
		}
	}
	for k := range scripts {
		if !over[k] {
			left = append(left, k)
		}
	}
	return w, left
}

// everyOrder plays these scripts in all orders that there are: how many there are, and in how many all are Done.
func everyOrder(t *testing.T, scripts []script, order []int) (n, allDone int) {
	t.Helper()
	w, left := play(t, scripts, order)
	if len(left) == 0 {
		w.holds(t, scripts, order)
		for _, s := range w.stories {
			if s.x.Status() != tl2.Done {
				return 1, 0
			}
		}
		return 1, 1
	}
	for _, k := range left {
		more, done := everyOrder(t, scripts, append(slices.Clone(order), k))
		n, allDone = n+more, allDone+done
	}
	return n, allDone
}

// P16.7: pairs of transactions over two cells, in each order in which their calls may come.
func TestEveryOrderOfTwo(t *testing.T) {
	t.Parallel()
	scripts := []script{{"R0", "R1"}, {"R1", "W1"}, {"W0", "W1"}, {"R0", "W1"}, {"R1", "W0"}, {"R0", "R1", "W0"}, {"R1", "W1", "R0"}}
	orders, allDone := 0, 0
	for k, one := range scripts {
		for _, other := range scripts[k:] {
			n, done := everyOrder(t, []script{one, other}, nil)
			if done == 0 {
				t.Fatal(one, other, "never both")
			}
			orders, allDone = orders+n, allDone+done
		}
	}
	if orders < 20000 || allDone < 5000 || allDone == orders {
		t.Fatal("the test itself", orders, allDone)
	}
}

// P16.7: three transactions with short ends, in each order in which their calls may come.
func TestEveryOrderOfThree(t *testing.T) {
	t.Parallel()
	for _, scripts := range [][]script{
		{{"R0", "R1"}, {"W0"}, {"W1"}},
		{{"R0", "R1"}, {"W0"}, {"W0"}},
		{{"R1", "R0"}, {"R0"}, {"W0", "W1"}},
	} {
		if n, done := everyOrder(t, scripts, nil); n < 1000 || done == 0 || done == n {
			t.Fatal("the test itself", scripts, n, done)
		}
	}
}

// P16.7: two that read one cell and write what the other one read: never both are Done where neither reads what the other one wrote.
func TestCrossedWrites(t *testing.T) {
	m := filled(t, 1, 1)
	for seed := range int64(500) {
		r := rand.New(rand.NewSource(seed))
		x, y := begun(t, m, 1), begun(t, m, 2)
		each := []*tl2.Tx[int]{x, y}
		sum := 0
		for i := range 2 {
			v, _, _, _ := m.Load(i)
			sum += v
		}
		for k, tx := range each { // each takes one away as long as the sum is above 1
			a, errA := tx.Read(0)
			b, errB := tx.Read(1)
			done(t, errA, errB)
			if a+b != sum {
				t.Fatal(seed, a, b, sum)
			}
			done(t, tx.Write(k, []int{a, b}[k]-1))
		}
		for !(x.Status() > tl2.Ending && y.Status() > tl2.Ending) {
			each[r.Intn(2)].Step()
		}
		if x.Status() == tl2.Done && y.Status() == tl2.Done {
			t.Fatal(seed, "both")
		}
	}
}

// P16.7: what one reads is of the moment of its beginning, however many others are Done in between: the sum of two cells that each change keeps.
func TestOneMoment(t *testing.T) {
	stale, fine := 0, 0
	for seed := range int64(300) {
		r := rand.New(rand.NewSource(seed))
		m := filled(t, 50, 50)
		var x *tl2.Tx[int] // takes from one cell to the other
		for range 40 {
			y := begun(t, m, 1)
			sum, err := 0, api.OK
			for _, i := range r.Perm(2) {
				for range r.Intn(7) {
					if x == nil || x.Status() > tl2.Ending {
						if r.Intn(5) > 0 {
							break // it rests
						}
						x = begun(t, m, 2)
						a, errA := x.Read(0)
						b, errB := x.Read(1)
						done(t, errA, errB, x.Write(0, a-1), x.Write(1, b+1))
					}
					x.Step()
				}
				v, e := y.Read(i)
				sum += v
				err = max(err, e)
			}
			switch {
			case err != api.OK:
				stale++
			case sum != 100:
				t.Fatal(seed, sum)
			default:
				fine++
			}
			y.Abort()
		}
	}
	if stale < 500 || fine < 500 {
		t.Fatal("the test itself", stale, fine)
	}
}

// P16.7: one without writes stands behind all whose version is at most its own, those too that have their version but were not Done when it began.
func TestReaderBehindItsVersion(t *testing.T) {
	m := filled(t, 10, 11)
	x := begun(t, m, 1)
	done(t, x.Write(0, 20), x.Write(1, 21))
	goesOn(t, x, 3) // it has version 1, and has published nothing
	y, z := begun(t, m, 2), begun(t, m, 3)
	goesOn(t, x, 1)
	reads(t, y, 0, 20)
	readsNot(t, z, 1, api.ErrStale)
	steps(t, x, tl2.Done)
	reads(t, y, 1, 21)
	steps(t, y, tl2.Done)
	if y.Version() != 1 || x.Version() != 1 {
		t.Fatal(y.Version(), x.Version())
	}
}
