package nest_test

import (
	"fmt"
	"slices"
	"strings"
	"testing"

	"ledgerstone/api"
	"ledgerstone/cell"
	"ledgerstone/nest"
	"ledgerstone/tl2"
)

// body is what is handed to the calls.
type body = func() api.Errno

// filled is a memory whose cells hold these values.
func filled[T any](t *testing.T, values ...T) *cell.Memory[T] {
	t.Helper()
	m, err := cell.New[T](len(values))
	if m == nil || err != api.OK {
		t.Fatal("New", len(values), err)
	}
	for i, v := range values {
		done(t, m.Fill(i, v))
	}
	return m
}

// begun is a transaction of owner 1 over m.
func begun[T any](t *testing.T, m *cell.Memory[T]) *tl2.Tx[T] {
	t.Helper()
	x, err := tl2.Begin(m, 1)
	if x == nil || err != api.OK {
		t.Fatal("Begin", err)
	}
	return x
}

// over is a transaction over cells that hold these values, in which nothing was done.
func over(t *testing.T, values ...int) *tl2.Tx[int] {
	t.Helper()
	return begun(t, filled(t, values...))
}

// tells is an error that is to be want.
func tells(t *testing.T, got, want api.Errno, what ...any) {
	t.Helper()
	if got != want {
		t.Fatal("told", got, "wanted", want, what)
	}
}

// done is calls that are to tell OK.
func done(t *testing.T, l ...api.Errno) {
	t.Helper()
	for i, err := range l {
		tells(t, err, api.OK, "call", i)
	}
}

// counts is what All or First told, that is to be want.
func counts(t *testing.T, n int, err api.Errno, wantN int, want api.Errno, what ...any) {
	t.Helper()
	if n != wantN || err != want {
		t.Fatal("told", n, err, "wanted", wantN, want, what)
	}
}

// reads is a Read that is to tell v.
func reads[T comparable](t *testing.T, x *tl2.Tx[T], i int, v T, what ...any) {
	t.Helper()
	if got, err := x.Read(i); got != v || err != api.OK {
		t.Fatal("Read", i, got, err, "wanted", v, what)
	}
}

// whole is all that a transaction tells.
func whole[T any](x *tl2.Tx[T]) string {
	var out strings.Builder
	fmt.Fprintln(&out, x.Status(), x.Depth(), x.Reads())
	out.WriteString(written(x))
	for i := range x.Cells() {
		version, isRead := x.Seen(i)
		fmt.Fprintln(&out, version, isRead)
	}
	return out.String()
}

// written is what a transaction writes.
func written[T any](x *tl2.Tx[T]) string {
	out := fmt.Sprintln(x.Writes())
	for i := range x.Cells() {
		v, isWritten := x.Value(i)
		out += fmt.Sprintln(v, isWritten)
	}
	return out
}

// wholeScopes is what a transaction tells, and what it tells as one scope behind the other is undone; so it is asked last.
func wholeScopes[T any](x *tl2.Tx[T]) string {
	out := whole(x)
	for x.Undo() == api.OK {
		out += whole(x)
	}
	return out
}

// stays is a call that is to leave x as it is, and not to call a body.
func stays(t *testing.T, build func() *tl2.Tx[int], do func(x *tl2.Tx[int], never body), what ...any) {
	t.Helper()
	x := build()
	before := whole(x)
	do(x, func() api.Errno {
		t.Fatal("called", what)
		return api.OK
	})
	if after := whole(x); after != before {
		t.Fatal("not as it was:", before, after, what)
	}
	if got, want := wholeScopes(x), wholeScopes(build()); got != want {
		t.Fatal("its scopes are not as they were:", got, want, what)
	}
}

// says is a body that does nothing, and tells err.
func says(err api.Errno) body {
	return func() api.Errno { return err }
}

// writes is a body that writes v into cell i, and tells err.
func writes(t *testing.T, x *tl2.Tx[int], i, v int, err api.Errno) body {
	return func() api.Errno {
		t.Helper()
		done(t, x.Write(i, v))
		return err
	}
}

// counted is b, which adds to n whenever it is called.
func counted(n *int, b body) body {
	return func() api.Errno {
		*n++
		return b()
	}
}

// notTransactions are transactions that Begin did not answer, and none.
func notTransactions[T any](t *testing.T) []*tl2.Tx[T] {
	t.Helper()
	x := begun(t, filled[T](t, make([]T, 3)...))
	done(t, x.Mark())
	copied := *x
	other := begun(t, filled[T](t, make([]T, 2)...))
	*other = *x
	var within struct{ x tl2.Tx[T] }
	within.x = *x
	return []*tl2.Tx[T]{nil, {}, new(tl2.Tx[T]), &copied, other, &within.x}
}

// notOpen is transactions that are not Open: two scopes and more are open in each, cell 0 is written in all of them.
func notOpen(t *testing.T) map[string]func() *tl2.Tx[int] {
	busy := func() *tl2.Tx[int] {
		m := filled(t, 10, 11, 12)
		x := begun(t, m)
		reads(t, x, 1, 11)
		done(t, x.Write(0, 5), x.Mark(), x.Write(0, 6), x.Mark(), x.Write(0, 7), m.Lock(2, 9))
		return x
	}
	step := func(n int, status tl2.Status) func() *tl2.Tx[int] {
		return func() *tl2.Tx[int] {
			x := busy()
			for range n {
				x.Step()
			}
			if x.Status() != status {
				t.Fatal("the test itself", n, x.Status())
			}
			return x
		}
	}
	failed := func(x *tl2.Tx[int], do func(x *tl2.Tx[int])) *tl2.Tx[int] {
		do(x)
		if x.Status() != tl2.Failed {
			t.Fatal("the test itself", x.Status())
		}
		return x
	}
	abort := func(x *tl2.Tx[int]) { done(t, x.Abort()) }
	return map[string]func() *tl2.Tx[int]{
		"ending":           step(1, tl2.Ending),
		"ending, its last": step(3, tl2.Ending),
		"done":             step(4, tl2.Done),
		"failed by a Read": func() *tl2.Tx[int] { return failed(busy(), func(x *tl2.Tx[int]) { x.Read(2) }) },
		"failed by a Step": func() *tl2.Tx[int] {
			return failed(busy(), func(x *tl2.Tx[int]) { x.Write(2, 1); x.Step(); x.Step() })
		},
		"failed by Abort":   func() *tl2.Tx[int] { return failed(busy(), abort) },
		"failed, too deep":  func() *tl2.Tx[int] { return failed(deep(t, 8), abort) },
		"aborted in an end": func() *tl2.Tx[int] { return failed(step(2, tl2.Ending)(), abort) },
	}
}

// deep is a transaction with that many scopes open, in each of which cell 0 is written.
func deep(t *testing.T, depth int) *tl2.Tx[int] {
	t.Helper()
	x := over(t, 10, 11, 12)
	done(t, x.Write(0, 20))
	for k := range depth {
		done(t, x.Mark(), x.Write(0, 21+k))
	}
	return x
}

// All numbers of the chapter's examples.
func TestExamples(t *testing.T) {
	x := over(t, 1)
	write := func(v int, err api.Errno) body { return writes(t, x, 0, v, err) }
	tells(t, nest.Scope(x, write(2, api.ErrArg)), api.ErrArg)
	reads(t, x, 0, 1)
	done(t, nest.Scope(x, func() api.Errno {
		done(t, x.Write(0, 2))
		tells(t, nest.Scope(x, write(3, api.ErrFull)), api.ErrFull)
		return api.OK
	}))
	reads(t, x, 0, 2)

	x = over(t, 1)
	n, err := nest.All(x, write(5, api.OK), says(api.ErrArg))
	counts(t, n, err, 1, api.ErrArg)
	reads(t, x, 0, 1)
	if len(x.Writes()) != 0 {
		t.Fatal(x.Writes())
	}
	n, err = nest.First(x, says(api.ErrFull), write(7, api.OK))
	counts(t, n, err, 1, api.OK)
	reads(t, x, 0, 7)
	if !slices.Equal(x.Writes(), []int{0}) || x.Depth() != 0 {
		t.Fatal(x.Writes(), x.Depth())
	}
}

// What is written in scopes that were kept is what the transaction publishes; what was undone is not.
func TestWhatIsPublished(t *testing.T) {
	m := filled(t, 10, 11, 12, 13)
	x := begun(t, m)
	done(t, nest.Scope(x, writes(t, x, 0, 20, api.OK)))
	tells(t, nest.Scope(x, writes(t, x, 1, 21, api.ErrIO)), api.ErrIO)
	n, err := nest.All(x, writes(t, x, 2, 22, api.OK), writes(t, x, 0, 30, api.OK))
	counts(t, n, err, 2, api.OK)
	n, err = nest.First(x, writes(t, x, 0, 40, api.ErrIO), writes(t, x, 3, 23, api.OK))
	counts(t, n, err, 1, api.OK)
	for x.Status() != tl2.Done {
		if _, err := x.Step(); err != api.OK {
			t.Fatal(err)
		}
	}
	for i, want := range []int{30, 11, 22, 23} {
		if v, _, _, _ := m.Load(i); v != want {
			t.Fatal(i, v, want)
		}
	}
}
