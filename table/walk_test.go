package table_test

import (
	"fmt"
	"slices"
	"testing"

	"ledgerstone/api"
)

// probes are calls with each of these keys, and with two values.
func probes(keys ...string) []deed {
	out := []deed{asks(0, "list")}
	for _, key := range keys {
		out = append(out, asks(0, "get", key), asks(0, "next", key), asks(0, "remove", key), asks(0, "put", key, ""), asks(0, "put", key, "1"))
	}
	return out
}

// everyList is all lists of n of these entries.
func everyList(n int, pool []entry) [][]entry {
	out := [][]entry{nil}
	for range n {
		var longer [][]entry
		for _, l := range out {
			for _, e := range pool {
				longer = append(longer, append(slices.Clone(l), e))
			}
		}
		out = longer
	}
	return out
}

// P20.2, P20.3: each call over every list that four cells may hold, of these entries, right ones and others: in the memory, and written by the transaction.
func TestEveryCallOverEveryList(t *testing.T) {
	t.Parallel()
	pool := []entry{nothing, has("", ""), has("a", ""), has("a", "1"), has("b", "1"), {Key: "a"}}
	count, rights := 0, 0
	for _, l := range everyList(4, pool) {
		count++
		if isRight(l) {
			rights++
		} else if count%3 != 0 {
			continue
		}
		for _, d := range probes("", "a", "aa", "b", "c") {
			for _, isWritten := range []bool{false, true} {
				p := pair(t, func() *memory {
					if isWritten {
						return empty(t, 6)
					}
					return filled(t, 6, 1, l...)
				})
				for _, w := range p {
					w.xs, w.tables = append(w.xs, begun(t, w.m, 1)), make([]ordered, 1)
					w.make(0, 0, 1, 4)
					for i, e := range l {
						if isWritten {
							done(t, w.xs[0].Write(1+i, e))
						}
					}
				}
				alike(t, p, d, true, l, isWritten)
			}
		}
	}
	// Of "", a and b any may be there, a with two values.
	if count != 6*6*6*6 || rights != 2*3*2 {
		t.Fatal("the test itself", count, rights)
	}
}

// steps are calls that lead from each table of three cells to each other one, and those that lead nowhere.
func steps() []deed {
	var out []deed
	for _, key := range []string{"", "a", "b", "c"} {
		out = append(out, asks(0, "put", key, ""), asks(0, "put", key, "1"), asks(0, "remove", key))
	}
	return out
}

// P20.3: every list of up to four calls of a table of three cells, and all that it tells behind them.
func TestEveryShortRun(t *testing.T) {
	t.Parallel()
	count, told := 0, map[string]int{}
	var from func(l []deed)
	from = func(l []deed) {
		p := pair(t, func() *memory { return empty(t, 5) })
		for _, w := range p {
			w.xs, w.tables = append(w.xs, begun(t, w.m, 1)), make([]ordered, 1)
			w.make(0, 0, 1, 3)
		}
		for i, d := range l {
			alike(t, p, d, i == len(l)-1, len(l))
		}
		told[alike(t, p, asks(0, "list"), true, len(l))]++
		count++
		for _, d := range steps() {
			if len(l) < 4 {
				from(append(l[:len(l):len(l)], d))
			}
		}
	}
	from(nil)
	// Of four keys up to three are there, with two values each.
	if count != 1+12+12*12+12*12*12+12*12*12*12 || len(told) != 1+4*2+6*4+4*8 {
		t.Fatal("the test itself", count, len(told))
	}
}

// P20.2, P20.3: each call in every table of three cells of four keys and two values, with every one of its cells written ahead or not.
func TestEveryCallInEveryTable(t *testing.T) {
	t.Parallel()
	pool := []entry{nothing}
	for _, key := range []string{"", "a", "b", "c"} {
		pool = append(pool, has(key, ""), has(key, "1"))
	}
	count := 0
	for _, l := range everyList(3, pool) {
		if !isRight(l) {
			continue
		}
		for written := range 8 {
			for _, d := range append(probes("", "\x00", "a", "aa", "b", "bb", "c", "d"), steps()...) {
				p := pair(t, func() *memory { return filled(t, 3, 0, l...) })
				for _, w := range p {
					w.xs, w.tables = append(w.xs, begun(t, w.m, 1)), make([]ordered, 1)
					w.make(0, 0, 0, 3)
					for i, e := range l {
						if written>>i&1 == 1 {
							done(t, w.xs[0].Write(i, e))
						}
					}
				}
				alike(t, p, d, true, l, written)
			}
		}
		count++
	}
	if count != 1+4*2+6*4+4*8 {
		t.Fatal("the test itself", count)
	}
}

// P20.3: each call with as many writes left as it needs or fewer, over every table of three cells of three keys.
func TestEveryCallAtTheLimit(t *testing.T) {
	t.Parallel()
	pool := []entry{nothing, has("a", ""), has("b", "1"), has("c", "")}
	tally := map[string]int{}
	for _, l := range everyList(3, pool) {
		if !isRight(l) {
			continue
		}
		for left := range 4 {
			for own := range 4 { // which cell is written ahead: 3 is none of the table's
				if own < 3 && left == 3 {
					continue
				}
				for _, d := range probes("", "a", "aa", "b", "c", "d") {
					p := pair(t, func() *memory { return filled(t, 260, 0, l...) })
					for _, w := range p {
						w.xs, w.tables = append(w.xs, begun(t, w.m, 1)), make([]ordered, 1)
						w.make(0, 0, 0, 3)
						done(t, w.xs[0].Write(own, append(l, nothing)[own]))
						for k := range 255 - left {
							done(t, w.xs[0].Write(4+k, nothing))
						}
					}
					told := alike(t, p, d, false, l, left, own)
					for i := range 3 {
						got, _ := p[0].xs[0].Read(i)
						want, _ := p[1].xs[0].Read(i)
						if got != want || !slices.Equal(p[0].xs[0].Writes(), p[1].xs[0].Writes()) {
							t.Fatal(d.name, l, left, own, "cell", i, got, want)
						}
					}
					tally[d.name+" "+told]++
				}
			}
		}
	}
	if n := tally["put "+fmt.Sprintf("%d", api.ErrLong)]; n < 100 || tally["remove false 3"] < 30 {
		t.Fatal("the test itself", tally)
	}
}
