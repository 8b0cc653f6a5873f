package nest_test

import (
	"fmt"
	"slices"
	"testing"

	"ledgerstone/api"
	"ledgerstone/nest"
	"ledgerstone/tl2"
)

// trail is bodies that say that they were called, in which order.
type trail struct {
	x      *tl2.Tx[int]
	called []int
}

// bodies are as many as errs has: number k writes 60+k into cells 0 and 1, where it is in a scope of that depth, and tells errs[k].
func (l *trail) bodies(t *testing.T, depth int, errs ...api.Errno) []body {
	var out []body
	for k, err := range errs {
		out = append(out, func() api.Errno {
			l.called = append(l.called, k)
			if l.x.Depth() != depth {
				t.Fatal("depth", k, l.x.Depth(), "wanted", depth)
			}
			done(t, l.x.Write(0, 60+k), l.x.Write(1, 60+k))
			reads(t, l.x, 2, 12)
			return err
		})
	}
	return out
}

// upTo is the numbers from 0 up to n, without n.
func upTo(n int) []int {
	var out []int
	for k := range n {
		out = append(out, k)
	}
	return out
}

// P17.2, R5: All of no transaction, with bodies and without, nil ones too: 0 and ErrNil, and no body is called.
func TestAllOfNone(t *testing.T) {
	never := func() api.Errno {
		t.Fatal("called")
		return api.OK
	}
	for _, x := range notTransactions[int](t) {
		for _, l := range [][]body{nil, {}, {never}, {never, never}, {nil}, {never, nil}} {
			n, err := nest.All(x, l...)
			counts(t, n, err, 0, api.ErrNil, len(l))
		}
	}
	for _, x := range notTransactions[map[string]int](t) {
		n, err := nest.All(x, never)
		counts(t, n, err, 0, api.ErrNil)
	}
}

// P17.2: All where the outer scope can't be opened: 0 and Mark's error, whatever the bodies are.
func TestAllNotOpened(t *testing.T) {
	builds := notOpen(t)
	builds["deep"] = func() *tl2.Tx[int] { return deep(t, 8) }
	for name, build := range builds {
		want := api.ErrOver
		if name == "deep" {
			want = api.ErrLong
		}
		stays(t, build, func(x *tl2.Tx[int], never body) {
			for _, l := range [][]body{nil, {}, {never}, {never, never}, {nil}, {never, nil}} {
				n, err := nest.All(x, l...)
				counts(t, n, err, 0, want, name, len(l))
			}
		}, name)
	}
}

// P17.2: All where the outer scope is the eighth: no inner one can be opened, and nothing is called; of no bodies it is OK; of a nil one ErrNil comes first.
func TestAllInnerNotOpened(t *testing.T) {
	stays(t, func() *tl2.Tx[int] { return deep(t, 7) }, func(x *tl2.Tx[int], never body) {
		n, err := nest.All(x)
		counts(t, n, err, 0, api.OK)
		n, err = nest.All(x, never)
		counts(t, n, err, 0, api.ErrLong)
		n, err = nest.All(x, never, never, nil)
		counts(t, n, err, 0, api.ErrLong)
		n, err = nest.All(x, nil, never)
		counts(t, n, err, 0, api.ErrNil)
	})
}

// P17.2: All of no bodies is a scope in which nothing is done.
func TestAllOfNoBodies(t *testing.T) {
	for depth := range 8 {
		stays(t, func() *tl2.Tx[int] { return deep(t, depth) }, func(x *tl2.Tx[int], _ body) {
			n, err := nest.All(x)
			counts(t, n, err, 0, api.OK)
			n, err = nest.All(x, []body{}...)
			counts(t, n, err, 0, api.OK)
		})
	}
}

// P17.2: All of one body and of several, with the error in each place, and in none: each is called in order and once up to it, in a scope in a scope; it leaves all or nothing.
func TestAllUpToAnError(t *testing.T) {
	for depth := range 7 {
		for count := 1; count <= 5; count++ {
			for at := range count + 1 { // count: at none
				for _, e := range errnos()[1:] {
					errs := slices.Repeat([]api.Errno{api.OK}, count)
					wantErr, wantCalled := api.OK, count
					if at < count {
						errs[at], wantErr, wantCalled = e, e, at+1
					}
					l := &trail{x: deep(t, depth)}
					before := written(l.x)
					n, err := nest.All(l.x, l.bodies(t, depth+2, errs...)...)
					counts(t, n, err, at, wantErr, depth, count)
					if !slices.Equal(l.called, upTo(wantCalled)) || l.x.Depth() != depth || !slices.Equal(l.x.Reads(), []int{2}) {
						t.Fatal(depth, count, at, l.called, l.x.Depth(), l.x.Reads())
					}
					if at < count {
						if after := written(l.x); after != before {
							t.Fatal("not as it was:", before, after)
						}
						continue
					}
					reads(t, l.x, 0, 59+count)
					reads(t, l.x, 1, 59+count)
					if depth > 0 { // what is kept goes with the scopes around
						closing(t, l.x, depth, false)
						reads(t, l.x, 0, 20)
					}
				}
			}
		}
	}
}

// P17.2: All of a nil body at each place: those ahead are called and told, those behind are not; nothing is left.
func TestAllOfNilBody(t *testing.T) {
	for count := 1; count <= 4; count++ {
		for at := range count {
			l := &trail{x: deep(t, 1)}
			before := written(l.x)
			bodies := l.bodies(t, 3, slices.Repeat([]api.Errno{api.OK}, count)...)
			bodies[at] = nil
			n, err := nest.All(l.x, bodies...)
			counts(t, n, err, at, api.ErrNil, count)
			if after := written(l.x); after != before || !slices.Equal(l.called, upTo(at)) || l.x.Depth() != 1 {
				t.Fatal(count, at, before, after, l.called, l.x.Depth())
			}
		}
	}
	x := over(t, 1)
	n, err := nest.All(x, says(api.OK), says(api.ErrIO), nil) // of several errors the one that is come upon
	counts(t, n, err, 1, api.ErrIO)
}

// P17.2: All of a body that ends the transaction, at each place, at OK and at an error: how many told OK ahead of it, and its error or ErrOver; no one behind it is called.
func TestAllEndedByABody(t *testing.T) {
	for name, end := range enders() {
		for count := 1; count <= 3; count++ {
			for at := range count {
				for _, e := range errnos() {
					_, x := theirs(t, 1)
					want, called, left := e, 0, ""
					if e == api.OK {
						want = api.ErrOver
					}
					var bodies []body
					for k := range count {
						bodies = append(bodies, counted(&called, func() api.Errno {
							if k != at {
								return api.OK
							}
							done(t, x.Write(1, 60))
							end(x)
							left = whole(x)
							return e
						}))
					}
					n, err := nest.All(x, bodies...)
					counts(t, n, err, at, want, name, count)
					if called != at+1 || whole(x) != left {
						t.Fatal(name, count, at, called, left, whole(x))
					}
				}
			}
		}
	}
}

// P17.2: All of a body that closes scopes: its own, the outer one, and those around it; the inner Scope tells ErrScope, or the body's error, and the outer one hands it on. Where the outer one is still open, it is undone.
func TestAllClosedByABody(t *testing.T) {
	for n := 1; n <= 4; n++ {
		for _, keep := range []bool{true, false} {
			for _, e := range []api.Errno{api.OK, api.ErrIO} {
				x, by := deep(t, 2), deep(t, 2)
				want := e
				if e == api.OK {
					want = api.ErrScope
				}
				shut := func(x *tl2.Tx[int]) {
					done(t, x.Write(2, 70))
					closing(t, x, n, keep)
					done(t, x.Write(2, 71))
				}
				count, err := nest.All(x, writes(t, x, 1, 60, api.OK), func() api.Errno { shut(x); return e }, says(api.OK))
				counts(t, count, err, 1, want, n, keep)
				done(t, by.Mark(), by.Mark(), by.Write(1, 60), by.Keep(), by.Mark())
				shut(by)
				if n == 1 {
					done(t, by.Undo())
				}
				if got, want := wholeScopes(x), wholeScopes(by); got != want {
					t.Fatal(n, keep, e, got, want)
				}
			}
		}
	}
}

// P17.2: the bodies of All see what those ahead of them wrote; what one leaves open is closed ahead of the next.
func TestAllInOrder(t *testing.T) {
	x := over(t, 0)
	var told []string
	add := func() api.Errno {
		v, err := x.Read(0)
		told = append(told, fmt.Sprint(v, " ", x.Depth()))
		done(t, err, x.Write(0, v+1), x.Mark(), x.Write(0, v+10))
		return api.OK
	}
	n, err := nest.All(x, add, add, add)
	counts(t, n, err, 3, api.OK)
	if !slices.Equal(told, []string{"0 2", "10 2", "20 2"}) || x.Depth() != 0 {
		t.Fatal(told, x.Depth())
	}
	reads(t, x, 0, 30)
}

// P17.2: All within All, and First within it: what one tells is the error of the body around.
func TestAllWithinAll(t *testing.T) {
	x := over(t, 10, 11, 12)
	inner := func(errs ...api.Errno) body {
		return func() api.Errno {
			var l []body
			for k, e := range errs {
				l = append(l, writes(t, x, k, 60+k, e))
			}
			_, err := nest.All(x, l...)
			return err
		}
	}
	n, err := nest.All(x, inner(api.OK, api.OK), inner(api.OK, api.OK, api.ErrIO))
	counts(t, n, err, 1, api.ErrIO)
	reads(t, x, 0, 10)
	n, err = nest.First(x, inner(api.OK, api.ErrFull), inner(api.OK), inner(api.OK, api.OK))
	counts(t, n, err, 1, api.OK)
	reads(t, x, 0, 60)
	reads(t, x, 1, 11)
	if x.Depth() != 0 {
		t.Fatal(x.Depth())
	}
}

// P17.2: so many bodies that only scopes one behind the other are deep enough.
func TestManyBodies(t *testing.T) {
	x := over(t, 0)
	add := func() api.Errno {
		v, err := x.Read(0)
		done(t, err, x.Write(0, v+1))
		return api.OK
	}
	n, err := nest.All(x, slices.Repeat([]body{add}, 2000)...)
	counts(t, n, err, 2000, api.OK)
	reads(t, x, 0, 2000)
	n, err = nest.First(x, append(slices.Repeat([]body{func() api.Errno { add(); return api.ErrIO }}, 2000), add)...)
	counts(t, n, err, 2000, api.OK)
	reads(t, x, 0, 2001)
}
