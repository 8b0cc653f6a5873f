package table_test

import (
	"fmt"
	"testing"

	"ledgerstone/api"
	"ledgerstone/table"
	"ledgerstone/tl2"
)

// call is a call of a table, and what it tells: an error, and whether that is all.
type call struct {
	name string
	does func(y *table.Table) (api.Errno, bool)
}

// calls are those of a table, with keys that are there in keyed("a", "b"), and others.
func calls() []call {
	var out []call
	for _, key := range []string{"", "a", "aa", "b", "c"} {
		out = append(out,
			call{"Get " + key, func(y *table.Table) (api.Errno, bool) {
				v, ok, err := y.Get(key)
				return err, v == "" && !ok
			}},
			call{"Next " + key, func(y *table.Table) (api.Errno, bool) {
				e, ok, err := y.Next(key)
				return err, e == nothing && !ok
			}},
			call{"Remove " + key, func(y *table.Table) (api.Errno, bool) {
				ok, err := y.Remove(key)
				return err, !ok
			}},
			call{"Put " + key, func(y *table.Table) (api.Errno, bool) { return y.Put(key, "0"), true }})
	}
	return append(out, call{"List", func(y *table.Table) (api.Errno, bool) {
		l, err := y.List()
		return err, len(l) == 0
	}})
}

// errs is an error that a call is to tell, and nothing beside it.
func errs(t *testing.T, y *table.Table, c call, want api.Errno, what ...any) {
	t.Helper()
	if err, isAll := c.does(y); err != want || !isAll {
		t.Fatal(c.name, "told", err, "and no more:", isAll, "wanted", want, what)
	}
}

// P20.2: each call reads all cells of the table, wherever its key is, and none beside them.
func TestAllCellsAreRead(t *testing.T) {
	for _, n := range []int{1, 2, 5, 200} {
		for _, l := range [][]entry{nil, keyed("a"), keyed("a", "b"), many(n / 2), many(n)} {
			for _, c := range calls() {
				m := filled(t, n+4, 2, l[:min(len(l), n)]...)
				x := begun(t, m, 1)
				c.does(of(t, x, 2, n))
				hasRead(t, x, upTo(2, n+1)...)
			}
		}
	}
}

// P20.2: a cell that the transaction has written is told as it has written it, and is not read.
func TestWrittenCellsAreTold(t *testing.T) {
	m := filled(t, 4, 0, keyed("a", "b", "c")...)
	for _, c := range calls() {
		x := begun(t, m, 1)
		y := of(t, x, 0, 4)
		done(t, x.Write(1, has("aa", "9")), x.Write(3, nothing))
		c.does(y)
		hasRead(t, x, 0, 2)
	}
	x := begun(t, m, 1)
	y := of(t, x, 0, 4)
	done(t, x.Write(1, has("aa", "9")))
	lists(t, y, has("a", "0"), has("aa", "9"), has("c", "2"))
	gets(t, y, "aa", "9")
	lacks(t, y, "b")
	next(t, y, "a", has("aa", "9"))
	done(t, x.Write(2, nothing))
	lists(t, y, has("a", "0"), has("aa", "9"))
	noNext(t, y, "aa", "b")
}

// P20.2: in a transaction that is over, or comes to its end, each call tells ErrOver; also where its cells are locked, newer, or no table.
func TestTransactionThatIsOver(t *testing.T) {
	m := filled(t, 12, 0, keyed("a", "b")...)
	all := overs(t, m)
	check := func(what string) {
		t.Helper()
		for name, x := range all {
			before := whole(m, x)
			refuses(t, of(t, x, 0, 3), api.ErrOver, name, what)
			refuses(t, of(t, x, 0, 12), api.ErrOver, name, what)
			refuses(t, of(t, x, 11, 1), api.ErrOver, name, what)
			if behind := whole(m, x); behind != before {
				t.Fatal(name, "not as it was:", before, behind)
			}
		}
	}
	check("as they were")
	publishes(t, m, 0, has("c", "1"))
	check("newer, no right list")
	done(t, m.Lock(1, outsider))
	check("another one's")
}

// P20.2: tables that were made ahead of the end tell ErrOver behind it.
func TestTableOfOneThatEnds(t *testing.T) {
	for steps := range 5 {
		y, x := alone(t, 3, keyed("a", "b")...)
		puts(t, y, "a", "9")
		for range steps {
			x.Step()
		}
		if steps > 0 {
			refuses(t, y, api.ErrOver, steps)
		}
		x.Abort()
		refuses(t, y, api.ErrOver, steps)
		if v, ok := x.Value(0); v != has("a", "9") || !ok {
			t.Fatal(v, ok)
		}
	}
}

// hurts are what has the reading of a cell tell ErrStale.
func hurts(t *testing.T) map[string]func(m *memory, i int) {
	return map[string]func(m *memory, i int){
		"another one owns it": func(m *memory, i int) { done(t, m.Lock(i, outsider)) },
		"it is newer":         func(m *memory, i int) { v, _, _, _ := m.Load(i); publishes(t, m, i, v) },
		"it is newer, and another one owns it": func(m *memory, i int) {
			publishes(t, m, i, nothing)
			done(t, m.Lock(i, outsider))
		},
	}
}

// P20.2: over a cell that another one owns, and over a newer one, each call tells ErrStale, and the transaction has failed; what was read ahead of it stays read, nothing behind it is. No other cell counts.
func TestCellsThatCantBeRead(t *testing.T) {
	for what, hurt := range hurts(t) {
		for _, c := range calls() {
			for i := range 6 {
				m := filled(t, 6, 1, keyed("a", "b")...)
				x := begun(t, m, 1)
				y := of(t, x, 1, 4)
				hurt(m, i)
				if i < 1 || i > 4 {
					if err, _ := c.does(y); err != api.OK || x.Status() != tl2.Open {
						t.Fatal(c.name, what, i, err)
					}
					continue
				}
				errs(t, y, c, api.ErrStale, what, i)
				hasRead(t, x, upTo(1, i-1)...)
				wrote(t, x)
				if x.Status() != tl2.Failed {
					t.Fatal(c.name, what, i, x.Status())
				}
				errs(t, y, c, api.ErrOver, what, i)
			}
		}
	}
}

// P20.2: of several cells the first one errs: which one it is, is told by what was read ahead of it.
func TestFirstCellErrs(t *testing.T) {
	for what, hurt := range hurts(t) {
		for _, c := range calls() {
			for i := range 4 {
				for j := i + 1; j < 5; j++ {
					m := filled(t, 5, 0, keyed("a", "b")...)
					x := begun(t, m, 1)
					y := of(t, x, 0, 5)
					hurt(m, j)
					hurt(m, i)
					errs(t, y, c, api.ErrStale, what, i, j)
					hasRead(t, x, upTo(0, i-1)...)
				}
			}
		}
	}
}

// P20.2: a cell that the transaction has read already, and that is newer now, errs too; one that it has written does not.
func TestCellsThatWereReadOrWritten(t *testing.T) {
	for what, hurt := range hurts(t) {
		for _, c := range calls() {
			m := filled(t, 3, 0, keyed("a", "b")...)
			x, other := begun(t, m, 1), begun(t, m, 2)
			y, z := of(t, x, 0, 3), of(t, other, 0, 3)
			lists(t, y, keyed("a", "b")...)
			done(t, other.Write(1, has("b", "0")))
			hurt(m, 1)
			errs(t, y, c, api.ErrStale, what)
			if err, _ := c.does(z); err != api.OK {
				t.Fatal(c.name, what, err)
			}
		}
	}
}

// read is a transaction that has read so many cells of its memory from 300 on.
func read(t *testing.T, m *memory, n int) *tx {
	t.Helper()
	x := begun(t, m, 1)
	for k := range n {
		if _, err := x.Read(300 + k); err != api.OK {
			t.Fatal(err)
		}
	}
	return x
}

// P20.2: a transaction that has read as many cells as it may: ErrLong with the first one too many; it stays Open, and what was read ahead of that stays read.
func TestTooManyReads(t *testing.T) {
	for _, n := range []int{1, 2, 5, 200} {
		for _, left := range []int{0, 1, n - 1, n} {
			for _, c := range calls() {
				m := filled(t, 1024, 10, keyed("a")...)
				x := read(t, m, 256-left)
				y := of(t, x, 10, n)
				if left >= n {
					if err, _ := c.does(y); err != api.OK && err != api.ErrFull {
						t.Fatal(c.name, n, left, err)
					}
					continue
				}
				for range 2 {
					errs(t, y, c, api.ErrLong, n, left)
				}
				hasRead(t, x, append(upTo(10, 9+left), upTo(300, 555-left)...)...)
				wrote(t, x)
				if x.Status() != tl2.Open {
					t.Fatal(x.Status())
				}
				for k := range n { // what is written needs no reading
					done(t, x.Write(10+k, nothing))
				}
				lists(t, y)
			}
		}
	}
}

// P20.2, Errors: the first cell's error is the call's: of one that can't be read, and one that is one too many; with the latter nothing behind it is asked for.
func TestFirstOfUnlikeErrors(t *testing.T) {
	for _, c := range calls() {
		m := filled(t, 1024, 0, keyed("a")...)
		x := read(t, m, 254)
		y := of(t, x, 0, 4)
		done(t, m.Lock(3, outsider))
		errs(t, y, c, api.ErrLong)
		if x.Status() != tl2.Open {
			t.Fatal("asked for what is behind the first error")
		}
		done(t, m.Unlock(3, outsider))
		errs(t, y, c, api.ErrLong)
		publishes(t, m, 1, nothing)
		errs(t, y, c, api.ErrStale)
		errs(t, y, c, api.ErrOver)
	}
}

// wrong are lists that are no right ones, padded to five.
func wrong() [][]entry {
	var out [][]entry
	for _, l := range [][]entry{
		{{Key: "a"}},
		{{Value: "1"}},
		{nothing, has("a", "1")},
		{nothing, nothing, nothing, nothing, has("a", "1")},
		{nothing, nothing, nothing, nothing, {Value: "1"}},
		{has("a", "1"), nothing, has("b", "1")},
		{has("a", "1"), has("a", "1")},
		{has("a", "1"), has("a", "2"), has("b", "1")},
		{has("b", "1"), has("a", "1")},
		{has("a", "1"), has("c", "1"), has("b", "1"), has("d", "1")},
		{has("a", "1"), has("b", "1"), {Key: "c", Value: "1"}},
		{has("a", "1"), has("b", "1"), has("c", "1"), has("d", "1"), has("d", "1")},
		{has("a", "1"), has("b", "1"), has("c", "1"), has("d", "1"), {Key: "d"}},
		{has("a", "1"), has("", "1")},
	} {
		out = append(out, padded(5, l...))
	}
	return out
}

// P20.2: over cells that are no right list each call tells ErrState, whatever its key is; all cells are read, none is written, and the transaction stays Open.
func TestCellsThatAreNoTable(t *testing.T) {
	for k, l := range wrong() {
		for _, c := range calls() {
			m := filled(t, 7, 1, l...)
			x := begun(t, m, 1)
			y := of(t, x, 1, 5)
			for range 2 {
				errs(t, y, c, api.ErrState, k)
				hasRead(t, x, 1, 2, 3, 4, 5)
				wrote(t, x)
				hold(t, x, 1, l...)
			}
			if x.Status() != tl2.Open {
				t.Fatal(c.name, k, x.Status())
			}
			for i := range l { // written otherwise, they are a table
				done(t, x.Write(1+i, nothing))
			}
			lists(t, y)
			x = begun(t, empty(t, 5), 1) // and such as are, written so, are none
			for i, e := range l {
				done(t, x.Write(i, e))
			}
			errs(t, of(t, x, 0, 5), c, api.ErrState, k)
			hold(t, x, 0, l...)
		}
	}
}

// P20.2: the table's own cells count, not those beside it; a table of a part may be one where the whole is none.
func TestPartOfNoTable(t *testing.T) {
	l := []entry{has("c", "0"), has("a", "1"), has("b", "2"), nothing, {Key: "x"}, has("a", "5")}
	x := begun(t, filled(t, 6, 0, l...), 1)
	for base := range l {
		for n := 1; base+n <= len(l); n++ {
			y, part := of(t, x, base, n), l[base:base+n]
			switch {
			case !isRight(part):
				refuses(t, y, api.ErrState, base, n)
			case part[0].Used:
				gets(t, y, part[0].Key, part[0].Value)
			default:
				lists(t, y)
			}
		}
	}
	lists(t, of(t, x, 1, 3), l[1:3]...)
	lists(t, of(t, x, 3, 1))
	lists(t, of(t, x, 5, 1), l[5])
}

// P20.2, Errors: what the transaction errs with comes ahead of ErrState, and that ahead of ErrFull.
func TestWhichErrorComesFirst(t *testing.T) {
	full := []entry{has("a", "0"), has("a", "1"), has("c", "2")} // no right list, all used
	for _, c := range calls() {
		for i := range 3 {
			m := filled(t, 1024, 0, full...)
			x := begun(t, m, 1)
			done(t, m.Lock(i, outsider))
			errs(t, of(t, x, 0, 3), c, api.ErrStale, i)
			errs(t, of(t, x, 0, 3), c, api.ErrOver, i)

			m = filled(t, 1024, 0, full...)
			x = read(t, m, 254+i%2)
			errs(t, of(t, x, 0, 3), c, api.ErrLong, i)
		}
		x := begun(t, filled(t, 3, 0, full...), 1)
		errs(t, of(t, x, 0, 3), c, api.ErrState)
	}
	good := keyed("a", "b", "c") // a table that is full
	for i := range 3 {
		m := filled(t, 1024, 0, good...)
		x := begun(t, m, 1)
		y := of(t, x, 0, 3)
		tells(t, y.Put("d", "1"), api.ErrFull)
		publishes(t, m, i, good[i])
		tells(t, y.Put("d", "1"), api.ErrStale)
		tells(t, y.Put("d", "1"), api.ErrOver)

		x = read(t, filled(t, 1024, 0, good...), 254)
		tells(t, of(t, x, 0, 3).Put("d", fmt.Sprint(i)), api.ErrLong)
	}
}
