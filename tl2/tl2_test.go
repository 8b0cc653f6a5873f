package tl2_test

import (
	"fmt"
	"math"
	"reflect"
	"slices"
	"strings"
	"testing"
	"unsafe"

	"ledgerstone/api"
	"ledgerstone/cell"
	"ledgerstone/tl2"
)

// made is a memory of n cells.
func made[T any](t *testing.T, n int) *cell.Memory[T] {
	t.Helper()
	m, err := cell.New[T](n)
	if m == nil || err != api.OK {
		t.Fatal("New", n, m == nil, err)
	}
	return m
}

// filled is a memory whose cells hold these values.
func filled[T any](t *testing.T, values ...T) *cell.Memory[T] {
	t.Helper()
	m := made[T](t, len(values))
	for i, v := range values {
		done(t, m.Fill(i, v))
	}
	return m
}

// setClock has the clock of m be that: no test can wait for 2^40 calls of Advance, and cell has no call for it.
func setClock[T any](m *cell.Memory[T], clock int64) {
	field := reflect.ValueOf(m).Elem().FieldByName("clock")
	*(*int64)(unsafe.Pointer(field.UnsafeAddr())) = clock
}

// advanced is m, whose clock goes on to that.
func advanced[T any](t *testing.T, m *cell.Memory[T], clock int64) *cell.Memory[T] {
	t.Helper()
	for m.Clock() < clock {
		if _, err := m.Advance(); err != api.OK {
			t.Fatal("Advance", err)
		}
	}
	return m
}

// begun is a transaction over m.
func begun[T any](t *testing.T, m *cell.Memory[T], owner int) *tl2.Tx[T] {
	t.Helper()
	x, err := tl2.Begin(m, owner)
	if x == nil || err != api.OK {
		t.Fatal("Begin", owner, x == nil, err)
	}
	return x
}

// tells is an error that is to be want.
func tells(t *testing.T, got, want api.Errno, what ...any) {
	t.Helper()
	if got != want {
		t.Fatal("told", got, "wanted", want, what)
	}
}

// done is calls that are to tell OK.
func done(t *testing.T, l ...api.Errno) {
	t.Helper()
	for i, err := range l {
		tells(t, err, api.OK, "call", i)
	}
}

// reads is a Read that is to tell v.
func reads[T comparable](t *testing.T, x face[T], i int, v T, what ...any) {
	t.Helper()
	if got, err := x.Read(i); got != v || err != api.OK {
		t.Fatal("Read", i, got, err, "wanted", v, what)
	}
}

// readsNot is a Read that is to tell an error, and nothing beside it.
func readsNot[T comparable](t *testing.T, x face[T], i int, want api.Errno, what ...any) {
	t.Helper()
	var nothing T
	if got, err := x.Read(i); got != nothing || err != want {
		t.Fatal("Read", i, got, err, "wanted", want, what)
	}
}

// steps is Steps that are to tell these statuses, and OK beside each.
func steps[T any](t *testing.T, x face[T], l ...tl2.Status) {
	t.Helper()
	for i, want := range l {
		if got, err := x.Step(); got != want || err != api.OK || x.Status() != want {
			t.Fatal("Step", i, got, err, x.Status(), "wanted", want)
		}
	}
}

// goesOn is so many Steps that are to leave the transaction ending.
func goesOn[T any](t *testing.T, x face[T], n int) {
	t.Helper()
	steps(t, x, slices.Repeat([]tl2.Status{tl2.Ending}, n)...)
}

// failsWith is a Step that is to tell Failed and that error; no cell of m has that owner behind it.
func failsWith[T any](t *testing.T, m *cell.Memory[T], owner int, x face[T], want api.Errno, what ...any) {
	t.Helper()
	if got, err := x.Step(); got != tl2.Failed || err != want {
		t.Fatal("Step", got, err, "wanted", tl2.Failed, want, what)
	}
	isFailed(t, m, owner, x, what...)
}

// isFailed is a transaction that is to be Failed, and to own no cell.
func isFailed[T any](t *testing.T, m *cell.Memory[T], owner int, x face[T], what ...any) {
	t.Helper()
	if x.Status() != tl2.Failed || len(m.Owned(owner)) != 0 || x.Version() != 0 || x.Claimed() != 0 {
		t.Fatal("not failed:", x.Status(), m.Owned(owner), x.Version(), x.Claimed(), what)
	}
}

// ends is Steps up to the one with which the transaction is over: its status, and the error beside it.
func ends[T any](x face[T]) (tl2.Status, api.Errno) {
	for {
		if status, err := x.Step(); status != tl2.Ending {
			return status, err
		}
	}
}

// changes has another transaction, of that owner, write v into cell i.
func changes[T any](t *testing.T, m *cell.Memory[T], owner, i int, v T) {
	t.Helper()
	x := begun(t, m, owner)
	done(t, x.Write(i, v))
	if status, err := ends(x); status != tl2.Done || err != api.OK {
		t.Fatal("changes", owner, i, status, err)
	}
}

// has is a cell that is to have these.
func has[T comparable](t *testing.T, m *cell.Memory[T], i int, v T, version int64, owner int, what ...any) {
	t.Helper()
	if gotV, gotVersion, gotOwner, err := m.Load(i); gotV != v || gotVersion != version || gotOwner != owner || err != api.OK {
		t.Fatal("Load", i, gotV, gotVersion, gotOwner, err, "wanted", v, version, owner, what)
	}
}

// owns is cells that are to have that owner.
func owns[T any](t *testing.T, m *cell.Memory[T], owner int, want ...int) {
	t.Helper()
	if got := m.Owned(owner); !slices.Equal(got, want) {
		t.Fatal("Owned", owner, got, "wanted", want)
	}
}

// lists is the Reads and Writes that are to be told.
func lists[T any](t *testing.T, x face[T], reads, writes []int, what ...any) {
	t.Helper()
	if !slices.Equal(x.Reads(), reads) || !slices.Equal(x.Writes(), writes) {
		t.Fatal("lists", x.Reads(), x.Writes(), "wanted", reads, writes, what)
	}
}

// whole is all that a transaction tells, of cells up to n.
func whole[T any](x face[T], n int) string {
	var out strings.Builder
	fmt.Fprintln(&out, x.Status(), x.Version(), x.Claimed(), x.Reads(), x.Writes(), x.Depth(), x.Cells())
	for i := -1; i <= n; i++ {
		v, isWritten := x.Value(i)
		version, isRead := x.Seen(i)
		fmt.Fprintln(&out, v, isWritten, version, isRead)
	}
	return out.String()
}

// wholeMemory is all that a memory tells; owners are told cell by cell.
func wholeMemory[T any](m memory[T]) string {
	var out strings.Builder
	fmt.Fprintln(&out, m.Size(), m.Clock())
	for i := range m.Size() {
		v, version, owner, err := m.Load(i)
		fmt.Fprintln(&out, v, version, owner, err)
	}
	return out.String()
}

// pair is a memory, and a transaction over it.
type pair struct {
	m *cell.Memory[int]
	x *tl2.Tx[int]
}

func (p pair) whole() string {
	return wholeMemory(p.m) + whole(p.x, p.x.Cells())
}

// rest is what p tells as its scopes are undone, and as it comes to its end: of few cells behind each step, of many behind the last.
func (p pair) rest() string {
	var out strings.Builder
	out.WriteString(p.whole())
	for p.x.Undo() == api.OK {
		out.WriteString(p.whole())
	}
	for {
		status, err := p.x.Step()
		fmt.Fprintln(&out, status, err, p.m.Owned(1))
		if status != tl2.Ending || p.m.Size() < 16 {
			out.WriteString(p.whole())
		}
		if status != tl2.Ending {
			return out.String()
		}
	}
}

// refuses is a call that is to tell that error and to leave all as it was: what is told behind it, too.
func refuses(t *testing.T, build func() pair, want api.Errno, call func(x *tl2.Tx[int]) api.Errno, what ...any) {
	t.Helper()
	p, same := build(), build()
	before := p.whole()
	for range 2 {
		tells(t, call(p.x), want, what...)
		if after := p.whole(); after != before {
			t.Fatal("not as it was:", before, after, what)
		}
	}
	if got, wanted := p.rest(), same.rest(); got != wanted {
		t.Fatal("goes on otherwise:", got, wanted, what)
	}
}

// reading, writing and stepping are calls whose other results are to be zero beside an error.
func reading(t *testing.T, i int) func(x *tl2.Tx[int]) api.Errno {
	return func(x *tl2.Tx[int]) api.Errno {
		v, err := x.Read(i)
		if err != api.OK && v != 0 {
			t.Fatal("beside the error", v, err)
		}
		return err
	}
}

func writing(i, v int) func(x *tl2.Tx[int]) api.Errno {
	return func(x *tl2.Tx[int]) api.Errno { return x.Write(i, v) }
}

func stepping(t *testing.T, want tl2.Status) func(x *tl2.Tx[int]) api.Errno {
	return func(x *tl2.Tx[int]) api.Errno {
		status, err := x.Step()
		if status != want {
			t.Fatal("beside the error", status, err, "wanted", want)
		}
		return err
	}
}

// noCells are numbers of which a memory of n cells has none.
func noCells(n int) []int {
	return []int{math.MinInt, math.MinInt + 1, -1 << 32, -1<<32 + 1, -n - 1, -n, -2, -1, n, n + 1, 2 * n, 1024, 1025, 1 << 31, 1 << 32, 1<<32 + n - 1, math.MaxInt - 1, math.MaxInt}
}

// noOwners are numbers that no owner has.
func noOwners() []int {
	return []int{math.MinInt, math.MinInt + 1, -1 << 32, -1<<32 + 1, -7, -2, -1, 0}
}

// owners are some that may be; many of them are the same in their lower bits.
func owners() []int {
	return []int{1, 2, 64, 255, 256, 257, 1 << 31, math.MaxUint32, 1 << 32, 1<<32 + 1, 1<<32 + 2, 1 << 62, math.MaxInt - 1, math.MaxInt}
}

// The chapter's examples, with all that may be told beside them.
func TestExamples(t *testing.T) {
	m := filled(t, 1, 1)
	x, u := begun(t, m, 1), begun(t, m, 2)
	reads(t, x, 0, 1)
	done(t, u.Write(0, 5), u.Write(1, 6))
	steps(t, u, tl2.Ending)
	owns(t, m, 2, 0)
	steps(t, u, tl2.Ending)
	owns(t, m, 2, 0, 1)
	readsNot(t, x, 1, api.ErrStale)
	isFailed(t, m, 1, x)
	owns(t, m, 2, 0, 1)
	steps(t, u, tl2.Ending)
	if m.Clock() != 1 || u.Claimed() != 1 || u.Version() != 0 {
		t.Fatal(m.Clock(), u.Claimed(), u.Version())
	}
	steps(t, u, tl2.Ending)
	has(t, m, 0, 5, 1, 0)
	has(t, m, 1, 1, 0, 2)
	steps(t, u, tl2.Done)
	has(t, m, 1, 6, 1, 0)
	if u.Version() != 1 || u.Claimed() != 0 {
		t.Fatal(u.Version(), u.Claimed())
	}
	v := begun(t, m, 3)
	reads(t, v, 0, 5)
	reads(t, v, 1, 6)
	steps(t, v, tl2.Done)
	if v.Version() != 1 || m.Clock() != 1 {
		t.Fatal(v.Version(), m.Clock())
	}
}

// P16.1: Begin with each owner that may be, over memories of any size: an Open transaction with nothing in it; the memory stays.
func TestBegin(t *testing.T) {
	for _, n := range []int{1, 2, 3, 1023, 1024} {
		m := advanced(t, made[int](t, n), int64(n%5))
		before := wholeMemory(m)
		for _, owner := range owners() {
			x := begun(t, m, owner)
			if x.Status() != tl2.Open || x.Version() != 0 || x.Claimed() != 0 || x.Depth() != 0 || x.Cells() != n {
				t.Fatal(n, owner, whole(x, 0))
			}
			lists(t, x, nil, nil, n, owner)
			owns(t, m, owner)
		}
		if after := wholeMemory(m); after != before {
			t.Fatal("not as it was:", before, after)
		}
	}
	if tl2.Open != 1 || tl2.Ending != 2 || tl2.Done != 3 || tl2.Failed != 4 {
		t.Fatal(tl2.Open, tl2.Ending, tl2.Done, tl2.Failed)
	}
}

// P16.1: Begin with numbers that no owner has.
func TestBeginOfNoOwner(t *testing.T) {
	m := advanced(t, filled(t, 7, 8), 3)
	before := wholeMemory(m)
	for _, owner := range noOwners() {
		if x, err := tl2.Begin(m, owner); x != nil || err != api.ErrArg {
			t.Fatal(owner, x != nil, err)
		}
	}
	if after := wholeMemory(m); after != before {
		t.Fatal("not as it was:", before, after)
	}
}

// notMemories are memories that New did not make, and none.
func notMemories[T any](t *testing.T) []*cell.Memory[T] {
	t.Helper()
	m := advanced(t, made[T](t, 4), 2)
	copied := *m
	other := made[T](t, 2)
	*other = *m
	var within struct{ m cell.Memory[T] }
	within.m = *m
	return []*cell.Memory[T]{nil, {}, new(cell.Memory[T]), &copied, other, &within.m}
}

// P16.1, R5: Begin of no memory, and of one that New did not make: ErrNil, ahead of ErrArg.
func TestBeginOfNoMemory(t *testing.T) {
	for _, owner := range append(noOwners(), owners()...) {
		for k, m := range notMemories[int](t) {
			if x, err := tl2.Begin(m, owner); x != nil || err != api.ErrNil {
				t.Fatal(k, owner, x != nil, err)
			}
		}
		for k, m := range notMemories[func()](t) {
			if x, err := tl2.Begin(m, owner); x != nil || err != api.ErrNil {
				t.Fatal(k, owner, x != nil, err)
			}
		}
	}
}

// P16.1: each transaction is new: what one of them does, another one has not done; one over another memory is not touched either.
func TestBeginIsNew(t *testing.T) {
	m, far := filled(t, 1, 2), filled(t, 1, 2)
	x, y, z := begun(t, m, 1), begun(t, m, 2), begun(t, far, 1)
	before := whole(y, 2)
	reads(t, x, 0, 1)
	done(t, x.Write(1, 9), x.Mark(), x.Write(0, 8))
	if whole(y, 2) != before || whole(z, 2) != before {
		t.Fatal(before, whole(y, 2), whole(z, 2))
	}
	reads(t, y, 1, 2)
	if status, err := ends(x); status != tl2.Done || err != api.OK {
		t.Fatal(status, err)
	}
	if z.Status() != tl2.Open || far.Clock() != 0 {
		t.Fatal(z.Status(), far.Clock())
	}
	has(t, far, 1, 2, 0, 0)
	reads(t, z, 1, 2)
}

// P16.1: an owner whose transaction is over may begin another one, time and again.
func TestOwnerBeginsAgain(t *testing.T) {
	m := filled(t, 0)
	for k := range 50 {
		x := begun(t, m, 3)
		reads(t, x, 0, k)
		done(t, x.Write(0, k+1))
		if k%3 == 0 {
			goesOn(t, x, k/3%4)
			done(t, x.Abort())
			x = begun(t, m, 3)
			done(t, x.Write(0, k+1))
		}
		if status, err := ends(x); status != tl2.Done || err != api.OK {
			t.Fatal(k, status, err)
		}
		owns(t, m, 3)
	}
}
