package wait_test

import (
	"fmt"
	"slices"
	"testing"

	"ledgerstone/api"
	"ledgerstone/tl2"
	"ledgerstone/wait"
)

// body is what OrElse is handed.
type body = func() api.Errno

// never is a body that is not to be called.
func never(t *testing.T) body {
	return func() api.Errno {
		t.Helper()
		t.Fatal("called")
		return api.OK
	}
}

// says is a body that does nothing, and tells err.
func says(err api.Errno) body {
	return func() api.Errno { return err }
}

// puts is a body that writes v into cell i, and tells err.
func puts(t *testing.T, x *tl2.Tx[int], i, v int, err api.Errno) body {
	return func() api.Errno {
		t.Helper()
		done(t, x.Write(i, v))
		return err
	}
}

// reads is a Read that is to tell v.
func reads[T comparable](t *testing.T, x *tl2.Tx[T], i int, v T) {
	t.Helper()
	if got, err := x.Read(i); got != v || err != api.OK {
		t.Fatal("Read", i, got, err, "wanted", v)
	}
}

// writes is which cells are to be written.
func writes[T any](t *testing.T, x *tl2.Tx[T], want ...int) {
	t.Helper()
	if got := x.Writes(); !slices.Equal(got, want) {
		t.Fatal("Writes", got, "wanted", want)
	}
}

// deep is a transaction over four cells with that many scopes open, in each of which cell 0 is written.
func deep(t *testing.T, depth int) *tl2.Tx[int] {
	t.Helper()
	x := begun(t, filled(t, 10, 11, 12, 13))
	done(t, x.Write(0, 20))
	for k := range depth {
		done(t, x.Mark(), x.Write(0, 21+k))
	}
	return x
}

// whole is all that a transaction tells.
func whole(x *tl2.Tx[int]) string {
	out := fmt.Sprint(x.Status(), x.Depth(), x.Reads(), x.Writes())
	for i := range x.Cells() {
		v, isWritten := x.Value(i)
		version, isRead := x.Seen(i)
		out += fmt.Sprint("; ", v, isWritten, version, isRead)
	}
	return out
}

// errnos is errors of all kinds, but for OK and ErrWait.
func errnos() []api.Errno {
	return []api.Errno{api.ErrNil, api.ErrArg, api.ErrLong, api.ErrFull, api.ErrBusy, api.ErrStale, api.ErrOver, api.ErrTries, api.ErrWait - 1, api.ErrWait + 1, api.ErrSpace, -1, 1 << 40, -api.ErrWait, api.ErrWait + 1<<32}
}

// told is what a body may tell.
func told() []api.Errno {
	return append([]api.Errno{api.OK, api.ErrWait}, errnos()...)
}

// P18.3: one that tells OK, or any error but ErrWait, is all that is called: what it told is told, what it wrote stays at OK alone.
func TestOneAlone(t *testing.T) {
	for depth := range 8 {
		for _, err := range told() {
			if err == api.ErrWait {
				continue
			}
			x := deep(t, depth)
			before := whole(x)
			calls := 0
			tells(t, wait.OrElse(x, func() api.Errno {
				calls++
				if x.Depth() != depth+1 {
					t.Fatal("not in a scope", x.Depth())
				}
				done(t, x.Write(0, 50), x.Write(1, 51))
				return err
			}, never(t)), err)
			if calls != 1 || x.Depth() != depth || x.Status() != tl2.Open {
				t.Fatal(depth, err, calls, x.Depth(), x.Status())
			}
			if err != api.OK {
				if after := whole(x); after != before {
					t.Fatal("not as it was:", before, after)
				}
				continue
			}
			reads(t, x, 0, 50)
			reads(t, x, 1, 51)
			writes(t, x, 0, 1)
		}
	}
}

// P18.3: behind one that tells ErrWait other is called, once: what it told is told; of what one wrote nothing stays, of what other wrote all at OK alone.
func TestOtherBehindOne(t *testing.T) {
	for depth := range 8 {
		for _, err := range told() {
			x := deep(t, depth)
			before := whole(x)
			var calls []string
			got := wait.OrElse(x, func() api.Errno {
				calls = append(calls, "one")
				done(t, x.Write(0, 50), x.Write(1, 51))
				return api.ErrWait
			}, func() api.Errno {
				calls = append(calls, "other")
				if x.Depth() != depth+1 {
					t.Fatal("not in a scope", x.Depth())
				}
				reads(t, x, 0, 20+depth) // what one wrote is gone
				writes(t, x, 0)
				done(t, x.Write(0, 60), x.Write(2, 62))
				return err
			})
			tells(t, got, err, depth)
			if !slices.Equal(calls, []string{"one", "other"}) || x.Depth() != depth {
				t.Fatal(depth, err, calls, x.Depth())
			}
			if err != api.OK {
				if after := whole(x); after != before {
					t.Fatal("not as it was:", before, after)
				}
				continue
			}
			writes(t, x, 0, 2)
			reads(t, x, 0, 60)
			reads(t, x, 1, 11)
			reads(t, x, 2, 62)
			if len(x.Reads()) != 1 {
				t.Fatal(x.Reads())
			}
			for k := depth; k > 0; k-- {
				done(t, x.Undo())
				reads(t, x, 0, 19+k)
				writes(t, x, 0)
			}
		}
	}
}

// P18.3: what either has read stays read, whatever they tell: who parks behind it waits for all of that.
func TestReadsStay(t *testing.T) {
	for _, one := range told() {
		for _, other := range told() {
			for i := range 4 {
				m := filled(t, 10, 11, 12, 13)
				w := watch(t, m)
				x := begun(t, m, 0)
				tells(t, wait.OrElse(x, func() api.Errno {
					reads(t, x, 1, 11)
					return one
				}, func() api.Errno {
					reads(t, x, 2, 12)
					return other
				}), orElse(one, other))
				want := []int{0, 1}
				if one == api.ErrWait {
					want = append(want, 2)
				}
				if !slices.Equal(x.Reads(), want) {
					t.Fatal(one, other, x.Reads())
				}
				parks(t, w, 1, x)
				changed(t, w)
				publishes(t, m, i)
				if slices.Contains(want, i) {
					changed(t, w, 1)
				}
				changed(t, w)
			}
		}
	}
}

// orElse is what bodies that tell these make of the whole.
func orElse(one, other api.Errno) api.Errno {
	if one == api.ErrWait {
		return other
	}
	return one
}

// P18.3: one that ends the transaction: other is not called, whatever one tells; ErrOver, if that is OK.
func TestOneEndsTheTransaction(t *testing.T) {
	for name, end := range map[string]func(x *tl2.Tx[int]){
		"abort":  func(x *tl2.Tx[int]) { done(t, x.Abort()) },
		"ending": func(x *tl2.Tx[int]) { steps(t, x, 1, tl2.Ending) },
		"done":   func(x *tl2.Tx[int]) { steps(t, x, 3, tl2.Done) },
		"failed": func(x *tl2.Tx[int]) { steps(t, x, 1, tl2.Ending); done(t, x.Abort()) },
	} {
		for _, err := range told() {
			x := deep(t, 3)
			want := err
			if err == api.OK {
				want = api.ErrOver
			}
			tells(t, wait.OrElse(x, func() api.Errno {
				end(x)
				return err
			}, never(t)), want, name)
			if x.Status() == tl2.Open {
				t.Fatal(name, x.Status())
			}
		}
	}
	m := filled(t, 10, 11)
	x := begun(t, m)
	publishes(t, m, 0)
	tells(t, wait.OrElse(x, func() api.Errno {
		x.Read(0) // too late: it fails
		return api.ErrWait
	}, never(t)), api.ErrWait)
	if x.Status() != tl2.Failed {
		t.Fatal(x.Status())
	}
}

// P18.3: other that ends the transaction: its error, or ErrOver.
func TestOtherEndsTheTransaction(t *testing.T) {
	for _, err := range told() {
		x := deep(t, 2)
		want := err
		if err == api.OK {
			want = api.ErrOver
		}
		tells(t, wait.OrElse(x, says(api.ErrWait), func() api.Errno {
			done(t, x.Abort())
			return err
		}), want)
	}
}

// P18.3: one that closes its own scope, or more, at ErrWait: the transaction is Open, so other is called; what one kept stays. At OK: ErrScope, and other is not called.
func TestOneClosesItsScope(t *testing.T) {
	x := deep(t, 2)
	closes := func(n int, err api.Errno) body {
		return func() api.Errno {
			done(t, x.Write(1, 51))
			for range n {
				done(t, x.Keep())
			}
			return err
		}
	}
	tells(t, wait.OrElse(x, closes(1, api.ErrWait), puts(t, x, 2, 62, api.OK)), api.OK)
	writes(t, x, 0, 1, 2)
	if x.Depth() != 2 {
		t.Fatal(x.Depth())
	}
	tells(t, wait.OrElse(x, closes(2, api.ErrWait), puts(t, x, 2, 63, api.ErrFull)), api.ErrFull)
	reads(t, x, 2, 62)
	if x.Depth() != 1 {
		t.Fatal(x.Depth())
	}
	tells(t, wait.OrElse(x, closes(2, api.OK), never(t)), api.ErrScope)
	tells(t, wait.OrElse(x, closes(1, api.ErrFull), never(t)), api.ErrFull)
	tells(t, wait.OrElse(x, says(api.ErrWait), closes(1, api.OK)), api.ErrScope)
	tells(t, wait.OrElse(x, says(api.ErrWait), closes(1, api.ErrWait)), api.ErrWait)
	if x.Depth() != 0 || x.Status() != tl2.Open {
		t.Fatal(x.Depth(), x.Status())
	}
}

// P18.3: scopes that bodies leave open are closed with their own.
func TestScopesLeftOpen(t *testing.T) {
	x := deep(t, 1)
	opens := func(i int, err api.Errno) body {
		return func() api.Errno {
			done(t, x.Write(i, 1), x.Mark(), x.Write(i, 2), x.Mark(), x.Write(i, 3))
			return err
		}
	}
	tells(t, wait.OrElse(x, opens(1, api.ErrWait), opens(2, api.OK)), api.OK)
	writes(t, x, 0, 2)
	reads(t, x, 2, 3)
	if x.Depth() != 1 {
		t.Fatal(x.Depth())
	}
	tells(t, wait.OrElse(x, opens(1, api.ErrWait), opens(3, api.ErrFull)), api.ErrFull)
	writes(t, x, 0, 2)
	if x.Depth() != 1 {
		t.Fatal(x.Depth())
	}
}

// P18.3: with eight scopes open: ErrLong, and nothing is called; with seven each of both has its scope, but no more.
func TestEightScopes(t *testing.T) {
	x := deep(t, 8)
	before := whole(x)
	tells(t, wait.OrElse(x, never(t), never(t)), api.ErrLong)
	if after := whole(x); after != before {
		t.Fatal("not as it was:", before, after)
	}
	x = deep(t, 7)
	tells(t, wait.OrElse(x, func() api.Errno {
		tells(t, wait.OrElse(x, never(t), never(t)), api.ErrLong)
		return api.ErrWait
	}, func() api.Errno {
		tells(t, wait.OrElse(x, never(t), never(t)), api.ErrLong)
		return x.Write(1, 5)
	}), api.OK)
	writes(t, x, 0, 1)
	if x.Depth() != 7 {
		t.Fatal(x.Depth())
	}
}

// P18.3: a transaction that is over: ErrOver, and nothing is called.
func TestOrElseOfOver(t *testing.T) {
	for n, status := range []tl2.Status{tl2.Failed, tl2.Ending, tl2.Ending, tl2.Done} {
		x := deep(t, 2)
		if status == tl2.Failed {
			done(t, x.Abort())
		}
		steps(t, x, n, status)
		before := whole(x)
		tells(t, wait.OrElse(x, never(t), never(t)), api.ErrOver, n)
		if after := whole(x); after != before {
			t.Fatal("not as it was:", before, after)
		}
	}
}

// P18.3: OrElse in OrElse, on either side: the first that does not wait counts; if all wait, ErrWait is told.
func TestOrElseWithin(t *testing.T) {
	errs := []api.Errno{api.OK, api.ErrWait, api.ErrFull}
	for n := range 27 {
		for side := range 2 {
			told := []api.Errno{errs[n%3], errs[n/3%3], errs[n/9]}
			x := deep(t, 1)
			put := func(k int) body { return puts(t, x, k+1, 70+k, told[k]) }
			var err api.Errno
			if side == 0 {
				err = wait.OrElse(x, func() api.Errno { return wait.OrElse(x, put(0), put(1)) }, put(2))
			} else {
				err = wait.OrElse(x, put(0), func() api.Errno { return wait.OrElse(x, put(1), put(2)) })
			}
			at := slices.IndexFunc(told, func(e api.Errno) bool { return e != api.ErrWait })
			switch {
			case at < 0:
				tells(t, err, api.ErrWait, told)
				writes(t, x, 0)
			case told[at] == api.OK:
				tells(t, err, api.OK, told)
				writes(t, x, 0, at+1)
				reads(t, x, at+1, 70+at)
			default:
				tells(t, err, told[at], told)
				writes(t, x, 0)
			}
			if x.Depth() != 1 {
				t.Fatal(told, x.Depth())
			}
		}
	}
}

// P18.3: OrElse in OrElse as deep as scopes may be, all of which wait but the inmost.
func TestOrElseDeep(t *testing.T) {
	x := begun(t, empty[int](t, 10))
	var at func(depth int) api.Errno
	at = func(depth int) api.Errno {
		return wait.OrElse(x, puts(t, x, depth, 1, api.ErrWait), func() api.Errno {
			done(t, x.Write(9, depth))
			if depth == 7 {
				return api.OK
			}
			return at(depth + 1)
		})
	}
	tells(t, at(0), api.OK)
	writes(t, x, 9)
	reads(t, x, 9, 7)
	if x.Depth() != 0 {
		t.Fatal(x.Depth())
	}
}

// P18.3: the same body may stand on both sides: it is called twice, if it waits.
func TestSameBodyTwice(t *testing.T) {
	x := deep(t, 0)
	calls := 0
	both := func() api.Errno {
		calls++
		done(t, x.Write(calls, 5))
		return []api.Errno{api.ErrWait, api.OK}[calls-1]
	}
	tells(t, wait.OrElse(x, both, both), api.OK)
	writes(t, x, 0, 2)
	if calls != 2 {
		t.Fatal(calls)
	}
}

// What OrElse leaves is what the transaction publishes.
func TestWhatIsPublished(t *testing.T) {
	m := filled(t, 10, 11)
	w := watch(t, m)
	parks(t, w, 1, begun(t, m, 0))
	parks(t, w, 2, begun(t, m, 1))
	x := begun(t, m)
	tells(t, wait.OrElse(x, puts(t, x, 0, 20, api.ErrWait), puts(t, x, 1, 21, api.OK)), api.OK)
	steps(t, x, 3, tl2.Done)
	changed(t, w, 2)
	y := begun(t, m)
	reads(t, y, 0, 10)
	reads(t, y, 1, 21)
}
