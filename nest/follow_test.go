package nest_test

import (
	"math/rand"
	"slices"
	"testing"

	"ledgerstone/api"
	"ledgerstone/nest"
	"ledgerstone/tl2"
)

// fair is bodies by chance that close no scope that they did not open; no model is asked.
type fair struct {
	*rand.Rand
	t     *testing.T
	x     *tl2.Tx[int]
	count map[string]int
	ends  bool // a body may end the transaction
}

// isWithin is whether all of a are in b.
func isWithin(a, b []int) bool {
	return !slices.ContainsFunc(a, func(v int) bool { return !slices.Contains(b, v) })
}

// follows has do done, and holds what it leaves against what P17.3 says.
func (f *fair) follows(name string, do func() api.Errno) api.Errno {
	f.t.Helper()
	before, depth, readCells := written(f.x), f.x.Depth(), f.x.Reads()
	err := do()
	after := written(f.x)
	switch {
	case !isWithin(readCells, f.x.Reads()):
		f.t.Fatal(name, err, "reads are gone", readCells, f.x.Reads())
	case f.x.Status() != tl2.Open && err == api.OK:
		f.t.Fatal(name, "OK of one that is over")
	case f.x.Status() != tl2.Open:
		f.count[name+" ended"]++
		return err
	case f.x.Depth() != depth:
		f.t.Fatal(name, err, "depth", depth, f.x.Depth())
	case err != api.OK && after != before:
		f.t.Fatal(name, err, "not what they were:", before, after)
	}
	switch {
	case err != api.OK:
		f.count[name+" undone"]++
	case after != before:
		f.count[name+" kept"]++
	}
	return err
}

// body is one by chance, with others in it down to that level.
func (f *fair) body(levels int) body {
	return func() api.Errno {
		opened := 0
		for range f.Intn(6) {
			switch n := f.Intn(20); {
			case n < 6:
				done(f.t, f.x.Write(f.Intn(6), f.Intn(1000)))
			case n < 8:
				f.x.Read(f.Intn(6))
			case n < 11 && f.x.Mark() == api.OK:
				opened++
			case n < 13 && opened > 0:
				opened--
				closing(f.t, f.x, 1, f.Intn(2) == 0)
			case levels > 0:
				f.call(levels - 1)
			}
			if f.ends && f.Intn(30) == 0 {
				f.x.Abort()
			}
			if f.x.Status() != tl2.Open {
				break
			}
		}
		if f.Intn(2) == 0 {
			return errnos()[f.Intn(len(errnos()))]
		}
		return api.OK
	}
}

// call is one of Scope, All and First by chance.
func (f *fair) call(levels int) {
	var l []body
	for range f.Intn(4) {
		l = append(l, f.body(levels))
	}
	switch f.Intn(3) {
	case 0:
		f.follows("Scope", func() api.Errno { return nest.Scope(f.x, f.body(levels)) })
	case 1:
		f.follows("All", func() api.Errno {
			n, err := nest.All(f.x, l...)
			if n > len(l) || n < len(l) && err == api.OK || n == len(l) && n > 0 && err != api.OK {
				f.t.Fatal(n, len(l), err)
			}
			return err
		})
	default:
		f.follows("First", func() api.Errno {
			n, err := nest.First(f.x, l...)
			if n > len(l) || (err == api.OK) != (n < len(l)) && f.x.Status() == tl2.Open {
				f.t.Fatal(n, len(l), err)
			}
			return err
		})
	}
}

// P17.3: behind each Scope, All and First that tells an error, of bodies that close no scope that they did not open, the writes are what they were; the reads are at least those. Where a body has ended the transaction, nothing can be undone any more: then of the reads alone.
func TestWhatFollows(t *testing.T) {
	count := map[string]int{}
	for seed := range int64(6000) {
		f := &fair{rand.New(rand.NewSource(seed)), t, over(t, 10, 11, 12, 13, 14, 15), count, seed%3 == 0}
		for range seed % 9 {
			done(t, f.x.Mark(), f.x.Write(f.Intn(6), f.Intn(1000)))
		}
		for range 5 {
			f.call(f.Intn(8))
		}
	}
	for _, name := range []string{"Scope", "All", "First"} {
		for _, how := range []string{" undone", " kept", " ended"} {
			if count[name+how] < 300 {
				t.Fatal("the test itself", name+how, count)
			}
		}
	}
}

// P17.3: what All does stands wholly or not at all: each body writes a cell of its own, in a scope that it leaves open or not, and any of them may err.
func TestAllStandsOrNot(t *testing.T) {
	for count := range 7 {
		for which := range 1 << count { // the bodies that err
			values := make([]int, 8)
			x := over(t, values...)
			done(t, x.Write(7, 3), x.Mark())
			var l []body
			for k := range count {
				l = append(l, func() api.Errno {
					if (k+which)%3 == 0 {
						done(t, x.Mark())
					}
					done(t, x.Write(k, 1), x.Write(7, 4+k))
					if which>>k&1 == 1 {
						return api.ErrFull
					}
					return api.OK
				})
			}
			n, err := nest.All(x, l...)
			stands := err == api.OK
			if stands != (which == 0) || stands && n != count || x.Depth() != 1 {
				t.Fatal(count, which, n, err, x.Depth())
			}
			for k := range 7 {
				_, isWritten := x.Value(k)
				if isWritten != (stands && k < count) {
					t.Fatal(count, which, k, isWritten, err)
				}
			}
			want := 3
			if stands && count > 0 {
				want = 3 + count
			}
			reads(t, x, 7, want)
		}
	}
}
