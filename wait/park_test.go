package wait_test

import (
	"slices"
	"testing"

	"ledgerstone/api"
	"ledgerstone/cell"
	"ledgerstone/tl2"
)

// P18.2: ids are from 1 on.
func TestParkOfIds(t *testing.T) {
	m := empty[int](t, 1)
	for _, id := range someIds() {
		w := watch(t, m)
		parks(t, w, id, begun(t, m, 0))
		parked(t, w, id)
		publishes(t, m, 0)
		changed(t, w, id)
		parked(t, w)
	}
	w := watch(t, m)
	for _, id := range noIds() {
		tells(t, w.Park(id, begun(t, m, 0)), api.ErrArg, id)
	}
	parked(t, w)
	publishes(t, m, 0)
	changed(t, w)
	for _, id := range someIds() {
		parks(t, w, id, begun(t, m, 0))
	}
	parked(t, w, someIds()...)
	publishes(t, m, 0)
	changed(t, w, someIds()...)
}

// P18.2, R2: Park of a waiter: ErrBusy, with whatever transaction; it goes on to wait for what it waited for.
func TestParkAgain(t *testing.T) {
	m := empty[int](t, 2)
	w := watch(t, m)
	x := begun(t, m, 0)
	parks(t, w, 7, x)
	tells(t, w.Park(7, x), api.ErrBusy)
	tells(t, w.Park(7, begun(t, m, 1)), api.ErrBusy)
	tells(t, w.Park(7, begun(t, m)), api.ErrBusy)
	tells(t, w.Park(7, begun(t, m, 0, 1)), api.ErrBusy)
	parked(t, w, 7)
	publishes(t, m, 1)
	changed(t, w)
	tells(t, w.Park(7, begun(t, m, 1)), api.ErrBusy)
	publishes(t, m, 0)
	tells(t, w.Park(7, begun(t, m, 0)), api.ErrBusy) // it can go on, but that was not told yet
	changed(t, w, 7)
	parks(t, w, 7, begun(t, m, 1))
	tells(t, w.Park(7, x), api.ErrBusy)
	publishes(t, m, 0)
	changed(t, w)
	publishes(t, m, 1)
	changed(t, w, 7)
}

// P18.2: who was forgotten, or told by Changed, is a waiter no more: it can be parked again, and waits for other cells then.
func TestParkBehindForgetAndChanged(t *testing.T) {
	m := empty[int](t, 3)
	w := watch(t, m)
	parks(t, w, 7, begun(t, m, 0))
	forgets(t, w, 7, true)
	parks(t, w, 7, begun(t, m, 1))
	publishes(t, m, 0)
	changed(t, w)
	publishes(t, m, 1)
	changed(t, w, 7)
	forgets(t, w, 7, false)
	parks(t, w, 7, begun(t, m, 2))
	publishes(t, m, 0, 1)
	changed(t, w)
	parked(t, w, 7)
	publishes(t, m, 2)
	changed(t, w, 7)
	parks(t, w, 7, begun(t, m))
	publishes(t, m, 0, 1, 2)
	changed(t, w)
	parked(t, w, 7)
}

// P18.2: 64 can wait, one more can't; each that is forgotten or told makes room for one.
func TestParkOfMany(t *testing.T) {
	for n := range 64 {
		w, m := full(t, n)
		parks(t, w, 1000, begun(t, m))
		parked(t, w, append(upTo(1, n, 1), 1000)...)
	}
	w, m := full(t, 64)
	for _, id := range []int{65, 66, 1 << 40} {
		tells(t, w.Park(id, begun(t, m, 0)), api.ErrFull, id)
	}
	tells(t, w.Park(65, begun(t, m)), api.ErrFull)
	parked(t, w, upTo(1, 64, 1)...)
	forgets(t, w, 65, false)
	tells(t, w.Park(65, begun(t, m)), api.ErrFull)
	forgets(t, w, 30, true)
	parks(t, w, 65, begun(t, m, 0))
	tells(t, w.Park(66, begun(t, m, 0)), api.ErrFull)
	tells(t, w.Park(30, begun(t, m, 0)), api.ErrFull)
	publishes(t, m, 1)
	told := append(upTo(2, 28, 2), upTo(32, 64, 2)...)
	changed(t, w, told...)
	for k := range told {
		parks(t, w, 100+k, begun(t, m, 1))
	}
	tells(t, w.Park(200, begun(t, m, 1)), api.ErrFull)
	publishes(t, m, 0)
	changed(t, w, append(upTo(1, 63, 2), 65)...)
	parked(t, w, upTo(100, 99+len(told), 1)...)
}

// cases is what a transaction over five cells does, and which cells it has read thereby.
func cases() []readCase {
	return []readCase{
		{"nothing", func(x *tl2.Tx[int]) {}, nil},
		{"reads one", func(x *tl2.Tx[int]) { x.Read(2) }, []int{2}},
		{"reads the first", func(x *tl2.Tx[int]) { x.Read(0) }, []int{0}},
		{"reads the last", func(x *tl2.Tx[int]) { x.Read(4) }, []int{4}},
		{"reads several", func(x *tl2.Tx[int]) { x.Read(3); x.Read(0); x.Read(4) }, []int{0, 3, 4}},
		{"reads one twice", func(x *tl2.Tx[int]) { x.Read(3); x.Read(1); x.Read(3) }, []int{1, 3}},
		{"writes one", func(x *tl2.Tx[int]) { x.Write(1, 5) }, nil},
		{"writes one, and reads it", func(x *tl2.Tx[int]) { x.Write(1, 5); x.Read(1) }, nil},
		{"reads one, and writes it", func(x *tl2.Tx[int]) { x.Read(1); x.Write(1, 5) }, []int{1}},
		{"reads one, and writes another", func(x *tl2.Tx[int]) { x.Read(1); x.Write(2, 5) }, []int{1}},
		{"reads in a scope that is undone", func(x *tl2.Tx[int]) { x.Mark(); x.Read(1); x.Undo(); x.Read(2) }, []int{1, 2}},
		{"reads in a scope that is kept", func(x *tl2.Tx[int]) { x.Mark(); x.Read(1); x.Keep() }, []int{1}},
		{"reads in a scope that is open", func(x *tl2.Tx[int]) { x.Mark(); x.Read(1) }, []int{1}},
		{"reads behind a write that is undone", func(x *tl2.Tx[int]) { x.Mark(); x.Write(1, 5); x.Read(1); x.Undo(); x.Read(1) }, []int{1}},
		{"reads no cell", func(x *tl2.Tx[int]) { x.Read(-1); x.Read(5) }, nil},
		{"reads all", func(x *tl2.Tx[int]) { x.Read(0); x.Read(1); x.Read(2); x.Read(3); x.Read(4) }, []int{0, 1, 2, 3, 4}},
	}
}

type readCase struct {
	what  string
	does  func(x *tl2.Tx[int])
	count []int
}

// ends are ways to bring an Open transaction to a status; one without writes is Done with one step, so that it is not Ending.
func ends() map[string]func(t *testing.T, x *tl2.Tx[int]) {
	run := func(upto tl2.Status) func(t *testing.T, x *tl2.Tx[int]) {
		return func(t *testing.T, x *tl2.Tx[int]) {
			for x.Status() == tl2.Open || upto == tl2.Done && x.Status() == tl2.Ending {
				if _, err := x.Step(); err != api.OK {
					t.Fatal(err)
				}
			}
		}
	}
	abort := func(t *testing.T, x *tl2.Tx[int]) { done(t, x.Abort()) }
	return map[string]func(t *testing.T, x *tl2.Tx[int]){
		"open":         func(t *testing.T, x *tl2.Tx[int]) {},
		"ending":       run(tl2.Ending),
		"done":         run(tl2.Done),
		"aborted":      abort,
		"ending, then": func(t *testing.T, x *tl2.Tx[int]) { x.Write(0, 1); x.Step(); abort(t, x) },
	}
}

// P18.2: the cells that count are those that the transaction has read, in any status: none, one, several, one of them twice; those that it has written itself ahead of reading them do not count, those that it has written behind do. Each cell is published alone.
func TestWhichCellsCount(t *testing.T) {
	seen := map[tl2.Status]int{}
	for _, c := range cases() {
		for name, end := range ends() {
			for i := range 5 {
				m := filled(t, 10, 11, 12, 13, 14)
				w := watch(t, m)
				x := begun(t, m)
				c.does(x)
				end(t, x)
				seen[x.Status()]++
				parks(t, w, 1, x)
				if c.what == "reads one, and writes it" && name == "done" { // it has published that cell itself
					changed(t, w, 1)
					continue
				}
				changed(t, w)
				if x.Status() == tl2.Ending {
					done(t, x.Abort())
					changed(t, w)
				}
				publishes(t, m, i)
				want := []int{1}
				if !slices.Contains(c.count, i) {
					want = nil
				}
				if got := w.Changed(); !slices.Equal(got, want) {
					t.Fatal(c.what, name, "cell", i, "told", got, "wanted", want)
				}
			}
		}
	}
	if len(seen) != 4 {
		t.Fatal("the test itself", seen)
	}
}

// P18.2: a transaction that failed counts with what it has read till then: by a Read that came too late, by a step of its end, with a lock of its own or without.
func TestParkOfFailed(t *testing.T) {
	for _, fails := range []func(m *cell.Memory[int], x *tl2.Tx[int]){
		func(m *cell.Memory[int], x *tl2.Tx[int]) { publishes(t, m, 2); x.Read(2) },
		func(m *cell.Memory[int], x *tl2.Tx[int]) {
			done(t, m.Lock(2, outsider))
			x.Read(2)
			done(t, m.Unlock(2, outsider))
		},
		func(m *cell.Memory[int], x *tl2.Tx[int]) {
			done(t, x.Write(1, 5), x.Write(2, 5), m.Lock(2, outsider))
			steps(t, x, 2, tl2.Failed)
			done(t, m.Unlock(2, outsider))
		},
		func(m *cell.Memory[int], x *tl2.Tx[int]) { done(t, x.Write(1, 5)); x.Step(); done(t, x.Abort()) },
	} {
		for i := range 3 {
			m := empty[int](t, 3)
			w := watch(t, m)
			x := begun(t, m, 0)
			fails(m, x)
			if x.Status() != tl2.Failed {
				t.Fatal("the test itself", x.Status())
			}
			parks(t, w, 4, x)
			changed(t, w)
			publishes(t, m, i)
			if i == 0 {
				changed(t, w, 4)
			}
			changed(t, w)
		}
	}
}

// P18.2: a transaction whose end found what it read changed: its waiter can go on at once.
func TestParkOfStale(t *testing.T) {
	m := empty[int](t, 3)
	w := watch(t, m)
	x := begun(t, m, 0, 1)
	done(t, x.Write(2, 5))
	publishes(t, m, 1)
	steps(t, x, 4, tl2.Failed)
	parks(t, w, 4, x)
	parked(t, w, 4)
	changed(t, w, 4)
}

// P18.2: what the transaction reads behind Park, and that it ends, changes nothing of the waiter.
func TestWhatComesBehindPark(t *testing.T) {
	for name, end := range ends() {
		for i := range 4 {
			m := empty[int](t, 4)
			w := watch(t, m)
			x := begun(t, m, 0, 1)
			parks(t, w, 4, x)
			x.Read(2)
			done(t, x.Write(3, 5))
			x.Read(3)
			end(t, x)
			parked(t, w, 4)
			changed(t, w)
			if x.Status() == tl2.Ending {
				done(t, x.Abort())
			}
			parks(t, w, 5, x)
			publishes(t, m, i)
			want := [][]int{{4, 5}, {4, 5}, {5}, nil}[i]
			if got := w.Changed(); !slices.Equal(got, want) {
				t.Fatal(name, i, got, want)
			}
		}
	}
}

// P18.2: a waiter whose own transaction publishes what it has read is told, as if another one had done so.
func TestOwnPublish(t *testing.T) {
	m := empty[int](t, 2)
	w := watch(t, m)
	x := begun(t, m, 0, 1)
	done(t, x.Write(0, 5))
	parks(t, w, 1, x)
	for range 4 { // the lock, the clock, a look at each cell
		x.Step()
		changed(t, w)
	}
	steps(t, x, 1, tl2.Done)
	changed(t, w, 1)
	parks(t, w, 1, x)
	changed(t, w, 1)
}

// P18.2: one transaction may be parked with several ids, each is a waiter of its own.
func TestOneTransactionForSeveral(t *testing.T) {
	m := empty[int](t, 3)
	w := watch(t, m)
	x := begun(t, m, 0)
	parks(t, w, 3, x)
	x.Read(1)
	parks(t, w, 2, x)
	x.Read(2)
	parks(t, w, 1, x)
	publishes(t, m, 2)
	changed(t, w, 1)
	publishes(t, m, 1)
	changed(t, w, 2)
	forgets(t, w, 2, false)
	parked(t, w, 3)
	publishes(t, m, 0)
	changed(t, w, 3)
}

// P18.2, R5: a transaction of another memory counts with the numbers of its cells; one that the watch's memory has not is never told, and nothing panics.
func TestTransactionOfAnotherMemory(t *testing.T) {
	small, great := empty[int](t, 2), empty[int](t, 1024)
	publishes(t, great, 3)
	w := watch(t, small)
	parks(t, w, 1, begun(t, great, 1))
	parks(t, w, 2, begun(t, great, 2, 1023))
	parks(t, w, 3, begun(t, great, 3))
	publishes(t, great, 1, 2, 3, 1023)
	changed(t, w)
	publishes(t, small, 0)
	changed(t, w)
	publishes(t, small, 1)
	changed(t, w, 1)
	parked(t, w, 2, 3)
}
