package nest_test

import (
	"slices"
	"testing"

	"ledgerstone/api"
	"ledgerstone/nest"
	"ledgerstone/tl2"
)

// P17.2, R5: First of no transaction, with bodies and without: ErrNil, ahead of ErrArg; no body is called.
func TestFirstOfNone(t *testing.T) {
	never := func() api.Errno {
		t.Fatal("called")
		return api.OK
	}
	for _, x := range notTransactions[int](t) {
		for _, l := range [][]body{nil, {}, {never}, {never, never}, {nil}, {never, nil}} {
			n, err := nest.First(x, l...)
			counts(t, n, err, 0, api.ErrNil, len(l))
		}
	}
	for _, x := range notTransactions[map[string]int](t) {
		n, err := nest.First(x, never)
		counts(t, n, err, 0, api.ErrNil)
	}
}

// P17.2: First of no bodies: ErrArg, of transactions that are not Open too: it comes ahead of what a Scope tells.
func TestFirstOfNoBodies(t *testing.T) {
	builds := notOpen(t)
	for depth := range 9 {
		builds[string(rune('0'+depth))] = func() *tl2.Tx[int] { return deep(t, depth) }
	}
	for name, build := range builds {
		stays(t, build, func(x *tl2.Tx[int], _ body) {
			n, err := nest.First(x)
			counts(t, n, err, 0, api.ErrArg, name)
			n, err = nest.First(x, []body{}...)
			counts(t, n, err, 0, api.ErrArg, name)
		})
	}
}

// P17.2: First of a transaction that is not Open ends at once, at place 0; of a nil body ErrNil comes first there.
func TestFirstOfNotOpen(t *testing.T) {
	for name, build := range notOpen(t) {
		stays(t, build, func(x *tl2.Tx[int], never body) {
			for _, l := range [][]body{{never}, {never, never, never}, {never, nil}} {
				n, err := nest.First(x, l...)
				counts(t, n, err, 0, api.ErrOver, name, len(l))
			}
			n, err := nest.First(x, nil, never)
			counts(t, n, err, 0, api.ErrNil, name)
		}, name)
	}
}

// P17.2: First where no scope can be opened: how many there are, and the last one's error.
func TestFirstTooDeep(t *testing.T) {
	stays(t, func() *tl2.Tx[int] { return deep(t, 8) }, func(x *tl2.Tx[int], never body) {
		n, err := nest.First(x, never)
		counts(t, n, err, 1, api.ErrLong)
		n, err = nest.First(x, never, nil, never)
		counts(t, n, err, 3, api.ErrLong)
		n, err = nest.First(x, never, never, nil)
		counts(t, n, err, 3, api.ErrNil)
	})
}

// P17.2: First of one body and of several, of which the first, each of the middle, the last one, and none tells OK: each is called in order and once up to it, in one scope; what those ahead wrote is gone, what it wrote stays, all reads stay.
func TestFirstUpToOK(t *testing.T) {
	for depth := range 8 {
		for count := 1; count <= 5; count++ {
			for at := range count + 1 { // count: none
				for _, e := range errnos()[1:] {
					errs := slices.Repeat([]api.Errno{e}, count)
					errs[0] = api.ErrArg // the last one's counts, not the first one's
					if count == 1 {
						errs[0] = e
					}
					wantErr, wantCalled := e, count
					if at < count {
						errs[at], wantErr, wantCalled = api.OK, api.OK, at+1
					}
					l := &trail{x: deep(t, depth)}
					before := written(l.x)
					n, err := nest.First(l.x, l.bodies(t, depth+1, errs...)...)
					counts(t, n, err, at, wantErr, depth, count)
					if !slices.Equal(l.called, upTo(wantCalled)) || l.x.Depth() != depth || !slices.Equal(l.x.Reads(), []int{2}) {
						t.Fatal(depth, count, at, l.called, l.x.Depth(), l.x.Reads())
					}
					if at == count {
						if after := written(l.x); after != before {
							t.Fatal("not as it was:", before, after)
						}
						continue
					}
					reads(t, l.x, 0, 60+at)
					reads(t, l.x, 1, 60+at)
					if depth > 0 { // what is kept goes with the scopes around
						closing(t, l.x, depth, false)
						reads(t, l.x, 0, 20)
					}
				}
			}
		}
	}
}

// P17.2: the writes of a body of First that told an error are gone ahead of the next one.
func TestFirstUndoesAheadOfTheNext(t *testing.T) {
	x := over(t, 1, 2)
	look := func(err api.Errno) body {
		return func() api.Errno {
			reads(t, x, 0, 1)
			if len(x.Writes()) != 0 || x.Depth() != 1 {
				t.Fatal(x.Writes(), x.Depth())
			}
			done(t, x.Write(0, 9), x.Mark(), x.Write(1, 8), x.Mark())
			return err
		}
	}
	n, err := nest.First(x, look(api.ErrIO), look(api.ErrFull), look(api.OK), look(api.OK))
	counts(t, n, err, 2, api.OK)
	reads(t, x, 0, 9)
	reads(t, x, 1, 8)
	if x.Depth() != 0 {
		t.Fatal(x.Depth())
	}
}

// P17.2: a nil body of First tells ErrNil, and the next one is tried; the last one's error is told if none is OK.
func TestFirstOfNilBody(t *testing.T) {
	for count := 1; count <= 4; count++ {
		for at := range count {
			for _, last := range []api.Errno{api.OK, api.ErrIO} {
				l := &trail{x: deep(t, 1)}
				errs := append(slices.Repeat([]api.Errno{api.ErrFull}, count-1), last)
				bodies := l.bodies(t, 2, errs...)
				bodies[at] = nil
				wantN, want := count, last
				switch {
				case at == count-1:
					want = api.ErrNil
				case last == api.OK:
					wantN = count - 1
				}
				n, err := nest.First(l.x, bodies...)
				counts(t, n, err, wantN, want, count, at)
				if !slices.Equal(l.called, slices.Delete(upTo(count), at, at+1)) || l.x.Depth() != 1 {
					t.Fatal(count, at, l.called, l.x.Depth())
				}
			}
		}
	}
}

// P17.2: First of a body that ends the transaction, at each place, at OK and at an error: it ends at once, with the place and the error; what the bodies ahead told is not asked.
func TestFirstEndedByABody(t *testing.T) {
	for name, end := range enders() {
		for count := 1; count <= 3; count++ {
			for at := range count {
				for _, e := range errnos() {
					_, x := theirs(t, 1)
					want, called, left := e, 0, ""
					if e == api.OK {
						want = api.ErrOver
					}
					var bodies []body
					for k := range count {
						bodies = append(bodies, counted(&called, func() api.Errno {
							if k != at {
								return api.ErrFull
							}
							done(t, x.Write(1, 60))
							end(x)
							left = whole(x)
							return e
						}))
					}
					n, err := nest.First(x, bodies...)
					counts(t, n, err, at, want, name, count)
					if called != at+1 || whole(x) != left {
						t.Fatal(name, count, at, called, left, whole(x))
					}
				}
			}
		}
	}
}

// P17.2: a body of First that closes its own scope has not told OK, so the next one is tried; what it left stays.
func TestFirstClosedByABody(t *testing.T) {
	for _, keep := range []bool{true, false} {
		for n := 1; n <= 3; n++ {
			x := deep(t, 2)
			shut := func() api.Errno {
				done(t, x.Write(1, 60))
				closing(t, x, n, keep)
				done(t, x.Write(2, 61))
				return api.OK
			}
			place, err := nest.First(x, shut, writes(t, x, 0, 70, api.OK))
			counts(t, place, err, 1, api.OK, n, keep)
			reads(t, x, 0, 70)
			reads(t, x, 2, 61)
			if x.Depth() != 3-n {
				t.Fatal(n, x.Depth())
			}
			x = deep(t, 2)
			place, err = nest.First(x, shut)
			counts(t, place, err, 1, api.ErrScope, n, keep)
		}
	}
}
