package ring_test

import (
	"math"
	"slices"
	"testing"

	"ledgerstone/api"
	"ledgerstone/ring"
)

// far are numbers out of all bounds, some of which come into them where a number is cut or a sum wraps round.
var far = []int{math.MinInt, math.MinInt + 1, math.MinInt + 2, math.MinInt + 5, math.MinInt + 512, math.MinInt/2 - 1, math.MinInt / 2, math.MinInt32, -1 << 32, -1 << 16, -1024, -514, -513, -512, -511, -256,
	1 << 16, 1<<16 + 1, 1<<31 - 1, 1 << 31, 1 << 32, 1<<32 + 1, 1<<32 + 5, 1 << 61, 1 << 62, 1<<62 + 1, math.MaxInt - 512, math.MaxInt - 511, math.MaxInt - 5, math.MaxInt - 1, math.MaxInt}

// around are numbers at the edges of a ring of that size, and far ones.
func around(size int) []int {
	out := []int{-5, -2, -1, 0, 1, 2, 5, size - 2, size - 1, size, size + 1, size + 2, 2*size - 1, 2 * size, 2*size + 1, 510, 511, 512, 513, 514, 1024}
	return append(out, far...)
}

// model is a right ring, place by place: what is taken, in order, and what else is reserved.
type model struct {
	size, held int
	next       int   // the place that is taken next
	taken      []int // places, in the order in which they were taken
}

// after is the place behind that one.
func (m *model) after(place int) int {
	if place == m.size-1 {
		return 0
	}
	return place + 1
}

// modelOf has places taken one by one from tail on.
func modelOf(size, tail, used, held int) *model {
	m := &model{size: size, held: held, next: tail}
	m.take(used)
	return m
}

func (m *model) take(n int) {
	for range n {
		m.taken = append(m.taken, m.next)
		m.next = m.after(m.next)
	}
}

func (m *model) free() int {
	n := 0
	for place := range m.size {
		if !slices.Contains(m.taken, place) {
			n++
		}
	}
	for range m.held {
		n--
	}
	return n
}

func (m *model) ring() api.Ring {
	tail := m.next // of none that is taken
	if len(m.taken) > 0 {
		tail = m.taken[0]
	}
	return api.Ring{Size: m.size, Tail: tail, Used: len(m.taken), Held: m.held}
}

func (m *model) copy() *model {
	c := *m
	c.taken = slices.Clone(m.taken)
	return &c
}

// The calls as the chapter's words have them, errors in their order.

func (m *model) at(i int) (int, api.Errno) {
	if i < 0 || i >= m.size {
		return 0, api.ErrArg
	}
	place := m.ring().Tail
	for range i {
		place = m.after(place)
	}
	return place, api.OK
}

func (m *model) reserve(n int) api.Errno {
	if n < 0 {
		return api.ErrArg
	}
	if n > m.free() {
		return api.ErrFull
	}
	m.held += n
	return api.OK
}

func (m *model) release(n int) api.Errno {
	if n < 0 || n > m.held {
		return api.ErrArg
	}
	m.held -= n
	return api.OK
}

func (m *model) put(n, held int) (int, api.Errno) {
	if n < 0 || held < 0 || held > n || held > m.held {
		return 0, api.ErrArg
	}
	if n-held > m.free() {
		return 0, api.ErrFull
	}
	first := m.next
	m.held -= held
	m.take(n)
	return first, api.OK
}

func (m *model) drop(n int) api.Errno {
	if n < 0 || n > len(m.taken) {
		return api.ErrArg
	}
	m.taken = m.taken[n:]
	return api.OK
}

// told is the ring that a call tells: of a call that is refused, none.
func (m *model) told(e api.Errno) api.Ring {
	if e != api.OK {
		return api.Ring{}
	}
	return m.ring()
}

func checkAt(t *testing.T, m *model, i int) {
	t.Helper()
	place, e := ring.At(m.ring(), i)
	if wantPlace, want := m.at(i); place != wantPlace || e != want {
		t.Error("At", m.ring(), i, place, e, wantPlace, want)
	}
}

func checkReserve(t *testing.T, m *model, n int) {
	t.Helper()
	c := m.copy()
	want := c.reserve(n)
	if r, e := ring.Reserve(m.ring(), n); r != c.told(want) || e != want {
		t.Error("Reserve", m.ring(), n, r, e, c.told(want), want)
	}
}

func checkRelease(t *testing.T, m *model, n int) {
	t.Helper()
	c := m.copy()
	want := c.release(n)
	if r, e := ring.Release(m.ring(), n); r != c.told(want) || e != want {
		t.Error("Release", m.ring(), n, r, e, c.told(want), want)
	}
}

func checkPut(t *testing.T, m *model, n, held int) {
	t.Helper()
	c := m.copy()
	wantFirst, want := c.put(n, held)
	if r, first, e := ring.Put(m.ring(), n, held); r != c.told(want) || first != wantFirst || e != want {
		t.Error("Put", m.ring(), n, held, r, first, e, c.told(want), wantFirst, want)
	}
}

func checkDrop(t *testing.T, m *model, n int) {
	t.Helper()
	c := m.copy()
	want := c.drop(n)
	if r, e := ring.Drop(m.ring(), n); r != c.told(want) || e != want {
		t.Error("Drop", m.ring(), n, r, e, c.told(want), want)
	}
}

// checkCalls holds all calls on a right ring with these numbers against the model.
func checkCalls(t *testing.T, m *model, numbers []int) {
	t.Helper()
	r := m.ring()
	if !ring.Right(r) || ring.Free(r) != m.free() {
		t.Error(r, ring.Right(r), ring.Free(r), m.free())
	}
	for _, n := range numbers {
		checkAt(t, m, n)
		checkReserve(t, m, n)
		checkRelease(t, m, n)
		checkDrop(t, m, n)
		for _, held := range numbers {
			checkPut(t, m, n, held)
		}
	}
}

// refuse holds r to be no right ring, whatever is asked of it.
func refuse(t *testing.T, r api.Ring) {
	t.Helper()
	if ring.Right(r) || ring.Free(r) != 0 {
		t.Error(r, ring.Right(r), ring.Free(r))
	}
	numbers := []int{math.MinInt, -1, 0, 1, 2, r.Size, r.Used, r.Held, 512, math.MaxInt}
	for _, n := range numbers {
		if place, e := ring.At(r, n); place != 0 || e != api.ErrArg {
			t.Error("At", r, n, place, e)
		}
		if a, e := ring.Reserve(r, n); a != (api.Ring{}) || e != api.ErrArg {
			t.Error("Reserve", r, n, a, e)
		}
		if a, e := ring.Release(r, n); a != (api.Ring{}) || e != api.ErrArg {
			t.Error("Release", r, n, a, e)
		}
		if a, e := ring.Drop(r, n); a != (api.Ring{}) || e != api.ErrArg {
			t.Error("Drop", r, n, a, e)
		}
		for _, held := range numbers {
			if a, first, e := ring.Put(r, n, held); a != (api.Ring{}) || first != 0 || e != api.ErrArg {
				t.Error("Put", r, n, held, a, first, e)
			}
		}
	}
}

// Chapter 7, examples.
func TestExamples(t *testing.T) {
	r, first, e := ring.Put(api.Ring{Size: 5, Tail: 3}, 3, 0)
	if r != (api.Ring{Size: 5, Tail: 3, Used: 3}) || first != 3 || e != api.OK {
		t.Fatal(r, first, e)
	}
	if place, e := ring.At(r, 2); place != 0 || e != api.OK {
		t.Error(place, e)
	}
	r, e = ring.Reserve(r, 2)
	if r != (api.Ring{Size: 5, Tail: 3, Used: 3, Held: 2}) || e != api.OK {
		t.Fatal(r, e)
	}
	for _, held := range []int{0, 1} {
		if a, first, e := ring.Put(r, 1+held, held); a != (api.Ring{}) || first != 0 || e != api.ErrFull {
			t.Error(held, a, first, e)
		}
	}
	r, first, e = ring.Put(r, 2, 2)
	if r != (api.Ring{Size: 5, Tail: 3, Used: 5}) || first != 1 || e != api.OK {
		t.Fatal(r, first, e)
	}
	if a, e := ring.Drop(r, 4); a != (api.Ring{Size: 5, Tail: 2, Used: 1}) || e != api.OK {
		t.Error(a, e)
	}
	if a, e := ring.Reserve(r, -1); a != (api.Ring{}) || e != api.ErrArg {
		t.Error(a, e)
	}
	if a, e := ring.Drop(r, 6); a != (api.Ring{}) || e != api.ErrArg {
		t.Error(a, e)
	}
}

// P7.1: which rings are right, written out.
func TestRightRings(t *testing.T) {
	for _, r := range []api.Ring{
		{Size: 1}, {Size: 1, Used: 1}, {Size: 1, Held: 1},
		{Size: 2, Tail: 1}, {Size: 2, Tail: 1, Used: 1, Held: 1}, {Size: 2, Used: 2}, {Size: 2, Held: 2},
		{Size: 5, Tail: 4, Used: 5}, {Size: 5, Tail: 4, Held: 5}, {Size: 5, Tail: 4, Used: 2, Held: 3},
		{Size: 511, Tail: 510, Used: 1, Held: 510}, {Size: 511, Used: 511},
		{Size: 512}, {Size: 512, Tail: 511, Used: 512}, {Size: 512, Tail: 511, Held: 512}, {Size: 512, Used: 256, Held: 256},
	} {
		if !ring.Right(r) || ring.Free(r) != r.Size-r.Used-r.Held {
			t.Error(r, ring.Right(r), ring.Free(r))
		}
	}
}

// P7.1, P7.2: rings that are not right, written out: each is refused by every call, whatever else is wrong.
func TestOtherRingsAreRefused(t *testing.T) {
	const least, greatest = math.MinInt, math.MaxInt
	for _, r := range []api.Ring{
		{}, {Size: -1}, {Size: -5}, {Size: -512}, {Size: 513}, {Size: 514}, {Size: 1024}, {Size: least}, {Size: greatest}, {Size: 1<<32 + 5},
		{Size: 0, Tail: -1}, {Size: 0, Used: 1}, {Size: -1, Tail: -2, Used: -1}, {Size: 513, Tail: 512, Used: 513}, {Size: greatest, Used: greatest}, {Size: least, Tail: least, Used: least, Held: least},
		{Size: 1, Tail: -1}, {Size: 1, Tail: 1}, {Size: 5, Tail: -1}, {Size: 5, Tail: 5}, {Size: 5, Tail: 6}, {Size: 512, Tail: 512}, {Size: 5, Tail: least}, {Size: 5, Tail: greatest},
		{Size: 1, Used: -1}, {Size: 1, Used: 2}, {Size: 5, Used: -1}, {Size: 5, Used: 6}, {Size: 512, Used: 513}, {Size: 5, Used: least}, {Size: 5, Used: greatest},
		{Size: 1, Held: -1}, {Size: 1, Held: 2}, {Size: 5, Held: -1}, {Size: 5, Held: 6}, {Size: 512, Held: 513}, {Size: 5, Held: least}, {Size: 5, Held: greatest},
		{Size: 5, Used: 5, Held: 1}, {Size: 5, Used: 1, Held: 5}, {Size: 5, Used: 3, Held: 3}, {Size: 512, Used: 512, Held: 1}, {Size: 512, Used: 256, Held: 257},
		{Size: 5, Used: 6, Held: -1}, {Size: 5, Used: -1, Held: 6}, {Size: 5, Used: -1, Held: 1}, {Size: 5, Used: 1, Held: -1},
		// Sums that wrap round into what may be.
		{Size: 5, Used: greatest, Held: greatest}, {Size: 5, Used: greatest, Held: 1}, {Size: 5, Used: 1, Held: greatest}, {Size: 5, Used: least, Held: least}, {Size: 5, Used: greatest, Held: least}, {Size: 5, Used: 1 << 62, Held: 1 << 62},
		{Size: 5, Used: 5, Held: least}, {Size: 5, Used: least, Held: greatest}, {Size: 5, Used: greatest - 2, Held: least + 5},
	} {
		refuse(t, r)
	}
}

// P7.1: all numbers that a ring may have, at the edges and far beyond them.
func TestRightAtEdges(t *testing.T) {
	sizes := append([]int{-513, -512, -5, -2, -1, 0, 1, 2, 5, 511, 512, 513, 514, 1024}, far...)
	for _, size := range sizes {
		for _, tail := range around(size) {
			for _, used := range around(size) {
				for _, held := range around(size) {
					r := api.Ring{Size: size, Tail: tail, Used: used, Held: held}
					right := 1 <= size && size <= 512 && 0 <= tail && tail < size && 0 <= used && used <= size && 0 <= held && held <= size && used+held <= size
					free := 0
					if right {
						free = size - used - held
					}
					if ring.Right(r) != right || ring.Free(r) != free {
						t.Fatal(r, ring.Right(r), ring.Free(r), right, free)
					}
				}
			}
		}
	}
}

// P7.1, P7.2: all right rings of small sizes, with all small numbers.
func TestCallsOnSmallRings(t *testing.T) {
	for size := 1; size <= 6; size++ {
		numbers := []int{math.MinInt, math.MaxInt}
		for n := -size - 1; n <= 2*size+1; n++ {
			numbers = append(numbers, n)
		}
		for tail := range size {
			for used := range size + 1 {
				for held := range size - used + 1 {
					checkCalls(t, modelOf(size, tail, used, held), numbers)
				}
			}
		}
	}
}

// P7.1, P7.2: rings of all sizes that edges lie at, with numbers at theirs.
func TestCallsOnGreatRings(t *testing.T) {
	for _, size := range []int{1, 2, 5, 511, 512} {
		for _, tail := range []int{0, size / 2, size - 1} {
			for _, used := range []int{0, 1, size / 2, size - 1, size} {
				for _, held := range []int{0, 1, size - used - 1, size - used} {
					if held < 0 || used+held > size {
						continue
					}
					free := size - used - held
					numbers := append(around(size), used-1, used, used+1, held-1, held, held+1, free-1, free, free+1, free+held, free+held+1)
					slices.Sort(numbers)
					checkCalls(t, modelOf(size, tail, used, held), slices.Compact(numbers))
				}
			}
		}
	}
}

// P7.1: every place of every size is told just once, in order from the tail on.
func TestPlacesGoRound(t *testing.T) {
	for size := 1; size <= 512; size++ {
		for _, tail := range []int{0, 1, size / 2, size - 1} {
			if tail >= size {
				continue
			}
			place := tail
			for i := range size {
				got, e := ring.At(api.Ring{Size: size, Tail: tail}, i)
				if got != place || e != api.OK {
					t.Fatal(size, tail, i, got, e, place)
				}
				place++
				if place == size {
					place = 0
				}
			}
		}
	}
}

// P7.1: a place is told, whether it is taken, reserved or free.
func TestPlacesAreToldTakenOrNot(t *testing.T) {
	for _, r := range []api.Ring{{Size: 5, Tail: 3}, {Size: 5, Tail: 3, Used: 5}, {Size: 5, Tail: 3, Held: 5}, {Size: 5, Tail: 3, Used: 2, Held: 1}} {
		for i, want := range []int{3, 4, 0, 1, 2} {
			if place, e := ring.At(r, i); place != want || e != api.OK {
				t.Error(r, i, place, e)
			}
		}
	}
}

// P7.2: of none that is taken the next place is told, on a full ring too.
func TestPutOfNoneTellsTheNextPlace(t *testing.T) {
	for _, v := range []struct {
		r    api.Ring
		next int
	}{
		{api.Ring{Size: 1}, 0}, {api.Ring{Size: 1, Used: 1}, 0}, {api.Ring{Size: 1, Held: 1}, 0},
		{api.Ring{Size: 5, Tail: 3}, 3}, {api.Ring{Size: 5, Tail: 3, Used: 1}, 4}, {api.Ring{Size: 5, Tail: 3, Used: 2}, 0}, {api.Ring{Size: 5, Tail: 3, Used: 5}, 3},
		{api.Ring{Size: 5, Tail: 3, Used: 1, Held: 4}, 4}, {api.Ring{Size: 512, Tail: 511, Used: 1}, 0}, {api.Ring{Size: 512, Tail: 511, Used: 512}, 511},
	} {
		if r, first, e := ring.Put(v.r, 0, 0); r != v.r || first != v.next || e != api.OK {
			t.Error(v.r, r, first, e)
		}
	}
}

// P7.2: calls with 0 leave a right ring as it is.
func TestNoughtChangesNothing(t *testing.T) {
	for _, r := range []api.Ring{{Size: 1}, {Size: 1, Used: 1}, {Size: 1, Held: 1}, {Size: 5, Tail: 4, Used: 2, Held: 3}, {Size: 512, Tail: 511, Used: 256, Held: 255}} {
		for _, call := range []func(api.Ring, int) (api.Ring, api.Errno){ring.Reserve, ring.Release, ring.Drop} {
			if a, e := call(r, 0); a != r || e != api.OK {
				t.Error(r, a, e)
			}
		}
	}
}

// P7.2: where both are to be told, ErrArg comes ahead of ErrFull.
func TestArgAheadOfFull(t *testing.T) {
	full := api.Ring{Size: 5, Tail: 3, Used: 3, Held: 2}
	for _, v := range [][2]int{{6, -1}, {6, 7}, {6, 3}, {3, 3}, {math.MaxInt, 3}, {math.MaxInt, math.MaxInt}, {math.MaxInt, math.MinInt}, {-1, 0}, {-1, -1}, {math.MinInt, 0}, {math.MinInt, math.MinInt}, {math.MinInt, math.MaxInt}, {-1, -2}} {
		if r, first, e := ring.Put(full, v[0], v[1]); r != (api.Ring{}) || first != 0 || e != api.ErrArg {
			t.Error(v, r, first, e)
		}
	}
	for _, v := range [][2]int{{1, 0}, {2, 1}, {3, 2}, {6, 0}, {math.MaxInt, 0}, {math.MaxInt, 2}} {
		if r, first, e := ring.Put(full, v[0], v[1]); r != (api.Ring{}) || first != 0 || e != api.ErrFull {
			t.Error(v, r, first, e)
		}
	}
	for _, n := range []int{-1, -6, math.MinInt} {
		if r, e := ring.Reserve(full, n); r != (api.Ring{}) || e != api.ErrArg {
			t.Error(n, r, e)
		}
	}
	for _, n := range []int{1, 6, math.MaxInt} {
		if r, e := ring.Reserve(full, n); r != (api.Ring{}) || e != api.ErrFull {
			t.Error(n, r, e)
		}
	}
	broken := api.Ring{Size: 5, Tail: 5, Used: 5}
	if r, e := ring.Reserve(broken, 1); r != (api.Ring{}) || e != api.ErrArg {
		t.Error(r, e)
	}
	if r, first, e := ring.Put(broken, 1, 0); r != (api.Ring{}) || first != 0 || e != api.ErrArg {
		t.Error(r, first, e)
	}
}

// dice are numbers from 0 on below a bound, the same ones in each run.
type dice uint64

func (d *dice) below(n int) int {
	*d = *d*6364136223846793005 + 1442695040888963407
	return int(uint64(*d)>>33) % n
}

// near is mostly a number that may be, now and then one more, one below 0, or a great one.
func (d *dice) near(most int) int {
	switch d.below(10) {
	case 0:
		return most
	case 1:
		return most + 1
	case 2:
		return -1 - d.below(3)
	case 3:
		return d.below(2 * (most + 2))
	}
	return d.below(most + 1)
}

// run is a ring through a long run of calls, and who has each of its places.
type run struct {
	t     *testing.T
	r     api.Ring
	m     *model
	owner []int // of each place the turn in which it was taken; 0 of one that is free
	turns int
	order []int // places that are taken, as the answers told them
	d     dice
}

func newRun(t *testing.T, size, tail int) *run {
	return &run{t: t, r: api.Ring{Size: size, Tail: tail}, m: modelOf(size, tail, 0, 0), owner: make([]int, size), d: dice(size*1000 + tail)}
}

// hold takes over the ring that a call answers, if it is the one that the model has; one that is refused leaves the ring as it was.
func (u *run) hold(call string, r api.Ring, e, want api.Errno) {
	u.t.Helper()
	if e != want || r != u.m.told(want) {
		u.t.Fatal(call, u.r, r, e, u.m.told(want), want)
	}
	if e == api.OK {
		u.r = r
	}
}

func (u *run) put() {
	u.t.Helper()
	held := u.d.near(u.r.Held)
	n := held + u.d.near(ring.Free(u.r))
	r, first, e := ring.Put(u.r, n, held)
	wantFirst, want := u.m.put(n, held)
	u.hold("Put", r, e, want)
	if first != wantFirst {
		u.t.Fatal("Put", u.r, n, held, first, wantFirst)
	}
	if e == api.OK {
		u.own(first, n)
	}
}

// own marks the n places from first on, none of which may be another's still.
func (u *run) own(first, n int) {
	u.t.Helper()
	u.turns++
	for i := range n {
		place := (first + i) % len(u.owner)
		if u.owner[place] != 0 {
			u.t.Fatal("handed out again", u.r, place)
		}
		u.owner[place] = u.turns
		u.order = append(u.order, place)
	}
}

func (u *run) drop() {
	u.t.Helper()
	n := u.d.near(u.r.Used)
	before := u.r
	r, e := ring.Drop(u.r, n)
	u.hold("Drop", r, e, u.m.drop(n))
	if e == api.OK {
		u.letGo(before, n)
	}
}

// letGo frees the first n places, that must be the first ones that were taken.
func (u *run) letGo(before api.Ring, n int) {
	u.t.Helper()
	for i := range n {
		place, e := ring.At(before, i)
		if e != api.OK || place != u.order[i] || u.owner[place] == 0 {
			u.t.Fatal("let go out of order", before, i, place, e)
		}
		u.owner[place] = 0
	}
	u.order = u.order[n:]
}

// check holds that the taken places are the ones that are told, and that all that is reserved can be taken now.
func (u *run) check() {
	u.t.Helper()
	if !ring.Right(u.r) || u.r.Used != len(u.order) {
		u.t.Fatal(u.r, len(u.order))
	}
	for i, want := range u.order {
		if place, e := ring.At(u.r, i); place != want || e != api.OK {
			u.t.Fatal(u.r, i, place, e, want)
		}
	}
	a, first, e := ring.Put(u.r, u.r.Held, u.r.Held)
	if e != api.OK || a.Held != 0 || a.Used != u.r.Used+u.r.Held {
		u.t.Fatal("what was reserved can't be taken", u.r, a, e)
	}
	for i := range u.r.Held {
		if place := (first + i) % u.r.Size; u.owner[place] != 0 {
			u.t.Fatal("reserved, and another's", u.r, place)
		}
	}
}

func (u *run) step() {
	u.t.Helper()
	switch u.d.below(4) {
	case 0:
		n := u.d.near(ring.Free(u.r))
		r, e := ring.Reserve(u.r, n)
		u.hold("Reserve", r, e, u.m.reserve(n))
	case 1:
		n := u.d.near(u.r.Held)
		r, e := ring.Release(u.r, n)
		u.hold("Release", r, e, u.m.release(n))
	case 2:
		u.put()
	case 3:
		u.drop()
	}
	u.check()
}

// P7.3: through long runs of calls no taken place is handed out, places are let go in the order in which they were taken, and what was reserved can be taken.
func TestLongRuns(t *testing.T) {
	for _, size := range []int{1, 2, 3, 5, 8, 16, 64, 511, 512} {
		for _, tail := range []int{0, size / 2, size - 1} {
			u := newRun(t, size, tail)
			for range 1500 {
				u.step()
			}
			if u.turns < 100 {
				t.Error("too little was put", size, tail, u.turns)
			}
		}
	}
}

// P7.3: what was reserved is there, however much else is put: the rest fills the ring, the reserved places are taken one by one.
func TestReservedRoomStays(t *testing.T) {
	for _, size := range []int{1, 2, 5, 511, 512} {
		for _, held := range []int{0, 1, size / 2, size} {
			r, e := ring.Reserve(api.Ring{Size: size, Tail: size - 1}, held)
			if e != api.OK {
				t.Fatal(size, held, e)
			}
			for ring.Free(r) > 0 {
				if r, _, e = ring.Put(r, 1, 0); e != api.OK {
					t.Fatal(size, held, r, e)
				}
			}
			if a, first, e := ring.Put(r, 1, 0); a != (api.Ring{}) || first != 0 || e != api.ErrFull {
				t.Error(size, held, a, first, e)
			}
			for range held {
				if r, _, e = ring.Put(r, 1, 1); e != api.OK {
					t.Fatal(size, held, r, e)
				}
			}
			if r != (api.Ring{Size: size, Tail: size - 1, Used: size}) {
				t.Error(size, held, r)
			}
		}
	}
}

// R3, R4: rings are values: a call leaves the one it is handed as it is, and tells the same each time.
func TestRingsAreValues(t *testing.T) {
	r := api.Ring{Size: 5, Tail: 3, Used: 2, Held: 2}
	for range 3 {
		if a, e := ring.Reserve(r, 1); a != (api.Ring{Size: 5, Tail: 3, Used: 2, Held: 3}) || e != api.OK {
			t.Error(a, e)
		}
		if a, e := ring.Release(r, 1); a != (api.Ring{Size: 5, Tail: 3, Used: 2, Held: 1}) || e != api.OK {
			t.Error(a, e)
		}
		if a, first, e := ring.Put(r, 2, 1); a != (api.Ring{Size: 5, Tail: 3, Used: 4, Held: 1}) || first != 0 || e != api.OK {
			t.Error(a, first, e)
		}
		if a, e := ring.Drop(r, 2); a != (api.Ring{Size: 5, Tail: 0, Held: 2}) || e != api.OK {
			t.Error(a, e)
		}
		if ring.Free(r) != 1 || r != (api.Ring{Size: 5, Tail: 3, Used: 2, Held: 2}) {
			t.Error(r)
		}
	}
}
