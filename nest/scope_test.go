package nest_test

import (
	"fmt"
	"slices"
	"testing"

	"ledgerstone/api"
	"ledgerstone/cell"
	"ledgerstone/nest"
	"ledgerstone/tl2"
)

// errnos is what a body may tell: the errors of all layers, and numbers that none has.
func errnos() []api.Errno {
	return []api.Errno{api.OK, api.ErrNil, api.ErrArg, api.ErrLong, api.ErrIO, api.ErrBusy, api.ErrStale, api.ErrOver, api.ErrClock, api.ErrWait, api.ErrScope, api.ErrSpace, -1, 7, 1 << 40}
}

// P17.1, R5: Scope of no transaction, of one that Begin did not answer, of a nil body, of both: ErrNil, and no body is called.
func TestScopeOfNone(t *testing.T) {
	never := func() api.Errno {
		t.Fatal("called")
		return api.OK
	}
	for _, x := range notTransactions[int](t) {
		tells(t, nest.Scope(x, never), api.ErrNil)
		tells(t, nest.Scope(x, nil), api.ErrNil)
	}
	for _, x := range notTransactions[[]func()](t) {
		tells(t, nest.Scope(x, never), api.ErrNil)
		tells(t, nest.Scope(x, nil), api.ErrNil)
	}
	for depth := range 9 { // ahead of ErrLong
		stays(t, func() *tl2.Tx[int] { return deep(t, depth) }, func(x *tl2.Tx[int], _ body) {
			tells(t, nest.Scope(x, nil), api.ErrNil, depth)
		})
	}
}

// P17.1: Scope of a transaction that is Ending, Done and Failed: Mark's error; of a nil body the error comes first.
func TestScopeOfNotOpen(t *testing.T) {
	for name, build := range notOpen(t) {
		stays(t, build, func(x *tl2.Tx[int], never body) {
			tells(t, nest.Scope(x, never), api.ErrOver, name)
			tells(t, nest.Scope(x, nil), api.ErrNil, name)
		}, name)
	}
}

// P17.1: Scope with eight scopes open: Mark's error; with seven it is done.
func TestScopeTooDeep(t *testing.T) {
	stays(t, func() *tl2.Tx[int] { return deep(t, 8) }, func(x *tl2.Tx[int], never body) {
		tells(t, nest.Scope(x, never), api.ErrLong)
	})
	for _, err := range errnos() {
		x, n := deep(t, 7), 0
		tells(t, nest.Scope(x, counted(&n, says(err))), err)
		if n != 1 || x.Depth() != 7 {
			t.Fatal(err, n, x.Depth())
		}
	}
}

// P17.1: the body is called once, in a scope of its own, whatever it tells; that is told.
func TestScopeCallsOnce(t *testing.T) {
	for depth := range 8 {
		for _, err := range errnos() {
			x, n := deep(t, depth), 0
			before := wholeScopes(deep(t, depth))
			tells(t, nest.Scope(x, func() api.Errno {
				n++
				if x.Depth() != depth+1 || x.Status() != tl2.Open {
					t.Fatal(depth, x.Depth(), x.Status())
				}
				return err
			}), err)
			if n != 1 {
				t.Fatal(depth, err, "called", n)
			}
			if after := wholeScopes(x); after != before {
				t.Fatal("not as it was:", before, after)
			}
		}
	}
}

// P17.1: at OK what was written stays, of a cell that was written already, and of one that was not; at an error both are as they were.
func TestScopeKeepsOrUndoes(t *testing.T) {
	for depth := range 8 {
		for _, err := range errnos() {
			x := deep(t, depth)
			before := written(x)
			tells(t, nest.Scope(x, func() api.Errno {
				done(t, x.Write(0, 90), x.Write(2, 91), x.Write(2, 92))
				reads(t, x, 0, 90)
				reads(t, x, 2, 92)
				return err
			}), err)
			if err != api.OK {
				if after := written(x); after != before {
					t.Fatal("not as it was:", before, after)
				}
				reads(t, x, 0, 20+depth)
				reads(t, x, 2, 12)
				continue
			}
			if x.Depth() != depth || !slices.Equal(x.Writes(), []int{0, 2}) {
				t.Fatal(depth, x.Depth(), x.Writes())
			}
			reads(t, x, 0, 90)
			reads(t, x, 2, 92)
			for k := depth - 1; k >= 0; k-- { // what is kept goes with the scope around
				done(t, x.Undo())
				reads(t, x, 0, 20+k)
			}
		}
	}
}

// P17.1: what the body read stays read, at OK and at an error.
func TestScopeReadsStay(t *testing.T) {
	for _, err := range errnos() {
		x := over(t, 10, 11, 12, 13)
		reads(t, x, 3, 13)
		tells(t, nest.Scope(x, func() api.Errno {
			reads(t, x, 1, 11)
			done(t, x.Write(0, 5))
			return nest.Scope(x, func() api.Errno {
				reads(t, x, 2, 12)
				return err
			})
		}), err)
		if !slices.Equal(x.Reads(), []int{1, 2, 3}) {
			t.Fatal(err, x.Reads())
		}
		if version, isRead := x.Seen(2); version != 0 || !isRead {
			t.Fatal(err, version, isRead)
		}
	}
}

// P17.1: scopes that the body opens and leaves open, one and more: at OK all are kept, at an error all are undone.
func TestScopeClosesWhatIsLeftOpen(t *testing.T) {
	for depth := range 8 {
		for more := range 8 - depth {
			for _, err := range errnos() {
				x := deep(t, depth)
				before := wholeScopes(deep(t, depth))
				tells(t, nest.Scope(x, func() api.Errno {
					done(t, x.Write(1, 50))
					for k := range more {
						done(t, x.Mark(), x.Write(1, 51+k), x.Write(0, 70+k))
					}
					return err
				}), err, depth, more)
				if x.Depth() != depth {
					t.Fatal(depth, more, err, x.Depth())
				}
				if err == api.OK {
					reads(t, x, 1, 50+more)
					continue
				}
				if after := wholeScopes(x); after != before {
					t.Fatal("not as it was:", depth, more, before, after)
				}
			}
		}
	}
}

// closing is so many calls of Keep, or of Undo.
func closing(t *testing.T, x *tl2.Tx[int], n int, keep bool) {
	t.Helper()
	for range n {
		if keep {
			done(t, x.Keep())
		} else {
			done(t, x.Undo())
		}
	}
}

// P17.1: a body that closes its own scope, and more than that, by Keep and by Undo: its error, or ErrScope; nothing is closed or undone behind it, what it writes then stays.
func TestScopeClosedByItsBody(t *testing.T) {
	for depth := range 8 {
		for n := 1; n <= depth+1; n++ {
			for _, keep := range []bool{true, false} {
				for _, err := range errnos() {
					x, by := deep(t, depth), deep(t, depth)
					want := err
					if err == api.OK {
						want = api.ErrScope
					}
					do := func(x *tl2.Tx[int]) {
						done(t, x.Write(0, 80))
						closing(t, x, n, keep)
						done(t, x.Write(1, 81))
					}
					tells(t, nest.Scope(x, func() api.Errno { do(x); return err }), want, depth, n, keep)
					done(t, by.Mark())
					do(by)
					if x.Depth() != depth+1-n {
						t.Fatal(depth, n, keep, err, x.Depth())
					}
					if got, want := wholeScopes(x), wholeScopes(by); got != want {
						t.Fatal(depth, n, keep, err, got, want)
					}
				}
			}
		}
	}
}

// P17.1: a body that closes its own scope, or more, and opens as many again: as many are open as behind the Mark, so all of those are closed that are from there on; nothing comes of the ones that were closed by hand.
func TestScopeClosedAndOpenedAgain(t *testing.T) {
	for depth := range 8 {
		for n := 1; n <= depth+1; n++ {
			for more := n; more <= 7-depth+n; more++ {
				for _, err := range []api.Errno{api.OK, api.ErrIO} {
					x, by := deep(t, depth), deep(t, depth)
					do := func(x *tl2.Tx[int]) {
						done(t, x.Write(1, 80))
						closing(t, x, n, n%2 == 0)
						for k := range more {
							done(t, x.Mark(), x.Write(0, 90+k), x.Write(2, 70+k))
						}
					}
					tells(t, nest.Scope(x, func() api.Errno { do(x); return err }), err, depth, n, more)
					done(t, by.Mark())
					do(by)
					closing(t, by, more-n+1, err == api.OK)
					if x.Depth() != depth {
						t.Fatal(depth, n, more, err, x.Depth())
					}
					if got, want := wholeScopes(x), wholeScopes(by); got != want {
						t.Fatal(depth, n, more, err, got, want)
					}
				}
			}
		}
	}
}

// enders is what a body may do that leaves the transaction not Open: cell 2 is another one's, cell 1 is written.
func enders() map[string]func(x *tl2.Tx[int]) {
	return map[string]func(x *tl2.Tx[int]){
		"a Read":            func(x *tl2.Tx[int]) { x.Read(2) },
		"Abort":             func(x *tl2.Tx[int]) { x.Abort() },
		"a Step":            func(x *tl2.Tx[int]) { x.Step() },
		"all Steps":         func(x *tl2.Tx[int]) { x.Step(); x.Step(); x.Step(); x.Step(); x.Step() },
		"a Step that fails": func(x *tl2.Tx[int]) { x.Write(2, 1); x.Step(); x.Step(); x.Step() },
		"Step and Abort":    func(x *tl2.Tx[int]) { x.Step(); x.Abort() },
		"Keep and Abort":    func(x *tl2.Tx[int]) { x.Keep(); x.Abort() },
		"Mark and a Step":   func(x *tl2.Tx[int]) { x.Mark(); x.Write(0, 8); x.Step() },
	}
}

// theirs is a transaction over cells of which number 2 is another one's.
func theirs(t *testing.T, depth int) (*cell.Memory[int], *tl2.Tx[int]) {
	t.Helper()
	m := filled(t, 10, 11, 12)
	x := begun(t, m)
	done(t, m.Lock(2, 9), x.Write(0, 20))
	for k := range depth {
		done(t, x.Mark(), x.Write(0, 21+k))
	}
	return m, x
}

// P17.1: a body that has the transaction fail by a Read, that aborts it, that takes Steps: its error, or ErrOver; nothing is done to it behind that.
func TestScopeEndedByItsBody(t *testing.T) {
	statuses := map[tl2.Status]int{}
	for depth := range 7 {
		for name, end := range enders() {
			for _, err := range errnos() {
				m, x := theirs(t, depth)
				want, at := err, ""
				if err == api.OK {
					want = api.ErrOver
				}
				tells(t, nest.Scope(x, func() api.Errno {
					done(t, x.Write(1, 60))
					end(x)
					at = fmt.Sprint(whole(x), m.Clock(), m.Owned(1))
					return err
				}), want, name, depth)
				if x.Status() == tl2.Open || x.Status() == 0 {
					t.Fatal("the test itself", name, x.Status())
				}
				statuses[x.Status()]++
				if after := fmt.Sprint(whole(x), m.Clock(), m.Owned(1)); after != at {
					t.Fatal("not as the body left it:", name, at, after)
				}
			}
		}
	}
	if len(statuses) != 3 {
		t.Fatal("the test itself", statuses)
	}
}

// P17.1: a body that closes its scope, and has the transaction fail then: ErrOver comes ahead of ErrScope.
func TestScopeClosedAndEnded(t *testing.T) {
	for depth := range 8 {
		x := deep(t, depth)
		tells(t, nest.Scope(x, func() api.Errno {
			closing(t, x, depth+1, true)
			done(t, x.Abort())
			return api.OK
		}), api.ErrOver, depth)
	}
}

// P17.1: Scope within Scope, to the greatest depth: OK all the way keeps all; an error at each level undoes what lies within.
func TestScopeWithinScope(t *testing.T) {
	for errs := range 9 { // at that level an error is told, which the one around takes for OK; 8: at none
		x := over(t, 10)
		var descend func(level int) api.Errno
		descend = func(level int) api.Errno {
			if level == 8 {
				return api.OK
			}
			done(t, x.Write(0, 20+level))
			err := nest.Scope(x, func() api.Errno {
				if x.Depth() != level+1 {
					t.Fatal(level, x.Depth())
				}
				done(t, descend(level+1))
				done(t, x.Write(0, 30+level))
				if level == errs {
					return api.ErrIO
				}
				return api.OK
			})
			want, v := api.OK, 30+level
			if level == errs {
				want, v = api.ErrIO, 20+level
			}
			tells(t, err, want, level, errs)
			reads(t, x, 0, v, level, errs)
			return api.OK
		}
		done(t, descend(0))
		if x.Depth() != 0 {
			t.Fatal(errs, x.Depth())
		}
	}
}

// P17.1: one deeper than the greatest depth: ErrLong from the inmost, handed on by all, or taken for OK.
func TestScopeOneTooDeep(t *testing.T) {
	for _, handsOn := range []bool{true, false} {
		x, calls := over(t, 10), 0
		var nested body
		nested = func() api.Errno {
			calls++
			done(t, x.Write(0, 20+calls))
			err := nest.Scope(x, nested)
			if x.Depth() == 8 {
				tells(t, err, api.ErrLong)
			}
			if handsOn {
				return err
			}
			return api.OK
		}
		err := nest.Scope(x, nested)
		if calls != 8 || x.Depth() != 0 {
			t.Fatal(calls, x.Depth())
		}
		if handsOn {
			tells(t, err, api.ErrLong)
			reads(t, x, 0, 10)
		} else {
			done(t, err)
			reads(t, x, 0, 28)
		}
	}
}

// Ways: a scope is closed by a deferred function: behind a body that panics, what nobody may hand in, it is closed as well, and what was written in it is gone; the panic goes on.
func TestScopeOfPanic(t *testing.T) {
	x := deep(t, 2)
	before := wholeScopes(deep(t, 2))
	stopped := func() (out any) {
		defer func() { out = recover() }()
		nest.Scope(x, func() api.Errno {
			nest.All(x, writes(t, x, 0, 50, api.OK), func() api.Errno {
				done(t, x.Write(1, 60), x.Mark(), x.Write(0, 70))
				panic("stop")
			})
			return api.OK
		})
		return nil
	}()
	if stopped != "stop" {
		t.Fatal(stopped)
	}
	if after := wholeScopes(x); after != before {
		t.Fatal("not as it was:", before, after)
	}
}
