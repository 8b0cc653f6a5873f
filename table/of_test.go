package table_test

import (
	"math"
	"testing"

	"ledgerstone/api"
	"ledgerstone/table"
	"ledgerstone/tl2"
)

// refusesOf is an error that Of is to tell, without a table.
func refusesOf(t *testing.T, x *tx, base, n int, want api.Errno, what ...any) {
	t.Helper()
	if y, err := table.Of(x, base, n); y != nil || err != want {
		t.Fatal("Of", base, n, "told", y, err, "wanted", want, what)
	}
}

// P20.1: n is from 1 to 200.
func TestOfCounts(t *testing.T) {
	x := begun(t, empty(t, 1024), 1)
	for n := 1; n <= 200; n++ {
		of(t, x, 0, n)
		of(t, x, 1024-n, n)
		of(t, x, 300, n)
	}
	for _, n := range []int{math.MinInt, math.MinInt + 1, -1 << 32, -201, -200, -1, 0, 201, 202, 255, 256, 257, 1024, 1025, 1<<31 - 1, 1 << 31, 1<<32 + 1, math.MaxInt - 1, math.MaxInt} {
		for _, base := range []int{0, 1, 300, 823, 824, 1023} {
			refusesOf(t, x, base, n, api.ErrArg)
		}
	}
}

// P20.1: base is from 0 on, and the last cell is one of the memory's.
func TestOfBases(t *testing.T) {
	for _, size := range []int{1, 2, 3, 199, 200, 201, 1023, 1024} {
		x := begun(t, empty(t, size), 1)
		for _, n := range []int{1, 2, 3, 100, 199, 200} {
			for _, base := range []int{math.MinInt, math.MinInt + 1, math.MinInt + n, -1 << 32, -1 << 31, -size, -n - 1, -n, -n + 1, -2, -1} {
				if base < 0 {
					refusesOf(t, x, base, n, api.ErrArg, size)
				}
			}
			for base := range size + 2 {
				if base+n <= size {
					of(t, x, base, n)
				} else {
					refusesOf(t, x, base, n, api.ErrArg, size)
				}
			}
			for _, base := range []int{1025, 1<<31 - 1, 1 << 31, 1 << 32, 1<<32 + 1, math.MaxInt - 200, math.MaxInt - n, math.MaxInt - n + 1, math.MaxInt - 1, math.MaxInt} {
				refusesOf(t, x, base, n, api.ErrArg, size)
			}
		}
	}
}

// P20.1: the cells are those from base on, n of them: each of them is read, and none beside them.
func TestOfCells(t *testing.T) {
	for _, c := range []struct{ size, base, n int }{{1, 0, 1}, {5, 0, 5}, {5, 2, 1}, {5, 4, 1}, {5, 1, 3}, {1024, 824, 200}, {1024, 0, 200}, {1024, 1023, 1}} {
		x := begun(t, empty(t, c.size), 1)
		y := of(t, x, c.base, c.n)
		lists(t, y)
		hasRead(t, x, upTo(c.base, c.base+c.n-1)...)
		for k := range c.n {
			puts(t, y, key(k), "v")
			wrote(t, x, upTo(c.base, c.base+k)...)
		}
		tells(t, y.Put(key(c.n), "v"), api.ErrFull)
	}
}

// P20.1: Of reads nothing, and changes nothing: also of cells that can't be read, and of such as are no table.
func TestOfReadsNothing(t *testing.T) {
	m := filled(t, 6, 0, has("b", "1"), has("a", "1"), entry{Key: "x"})
	x := begun(t, m, 1)
	publishes(t, m, 3, has("c", "1"))
	done(t, m.Lock(4, outsider), x.Write(5, has("d", "1")))
	before := whole(m, x)
	for base := range 6 {
		for n := 1; base+n <= 6; n++ {
			of(t, x, base, n)
			refusesOf(t, x, base, n+6, api.ErrArg)
		}
	}
	if behind := whole(m, x); behind != before {
		t.Fatal("not as it was:", before, behind)
	}
}

// overs are transactions over m in each status that they may have, but Open.
func overs(t *testing.T, m *memory) map[string]*tx {
	t.Helper()
	out := map[string]*tx{}
	for owner, name := range []string{"done", "aborted", "failed", "ending", "ending, published in part", "done with writes"} {
		out[name] = begun(t, m, owner+1)
	}
	commits(t, out["done"])
	done(t, out["aborted"].Abort())
	last := m.Size() - 1
	done(t, m.Lock(last, outsider))
	if _, err := out["failed"].Read(last); err != api.ErrStale {
		t.Fatal(err)
	}
	done(t, m.Unlock(last, outsider))
	for i, name := range []string{"ending", "ending, published in part", "done with writes"} {
		done(t, out[name].Write(last-2*i, nothing), out[name].Write(last-2*i-1, nothing))
	}
	commits(t, out["done with writes"])
	out["ending"].Step()
	for range 4 {
		out["ending, published in part"].Step()
	}
	for name, want := range map[string]tl2.Status{"done": tl2.Done, "aborted": tl2.Failed, "failed": tl2.Failed, "ending": tl2.Ending, "ending, published in part": tl2.Ending, "done with writes": tl2.Done} {
		if out[name].Status() != want {
			t.Fatal("the test itself", name, out[name].Status())
		}
	}
	return out
}

// P20.1: of a transaction in any status there is a table.
func TestOfAnyStatus(t *testing.T) {
	for name, x := range overs(t, empty(t, 8)) {
		of(t, x, 0, 8)
		of(t, x, 7, 1)
		refusesOf(t, x, 7, 2, api.ErrArg, name)
		refusesOf(t, x, 0, 0, api.ErrArg, name)
	}
}

// notTransactions are transactions that Begin did not answer, and none.
func notTransactions(t *testing.T) []*tx {
	t.Helper()
	m := empty(t, 3)
	x := begun(t, m, 1)
	copied := *x
	other := begun(t, m, 2)
	*other = *x
	emptied := begun(t, m, 3)
	*emptied = tx{}
	var within struct{ x tx }
	within.x = *x
	refused, _ := tl2.Begin(m, 0)
	return []*tx{nil, {}, new(tx), &copied, other, emptied, &within.x, refused}
}

// P20.1, R5, Errors: Of of no transaction: ErrNil, whatever n and base are.
func TestOfNoTransaction(t *testing.T) {
	for k, x := range notTransactions(t) {
		for _, base := range []int{math.MinInt, -1, 0, 1, 2, 3, 1024, math.MaxInt} {
			for _, n := range []int{math.MinInt, -1, 0, 1, 2, 200, 201, math.MaxInt} {
				refusesOf(t, x, base, n, api.ErrNil, k)
			}
		}
	}
}

// P20.1: the cells of the transaction's own memory count, whatever other ones there are.
func TestOfTwoMemories(t *testing.T) {
	small, great := begun(t, empty(t, 2), 1), begun(t, empty(t, 9), 1)
	of(t, great, 2, 7)
	refusesOf(t, small, 2, 7, api.ErrArg)
	refusesOf(t, small, 2, 1, api.ErrArg)
	of(t, small, 1, 1)
}

// A table shares its transaction: what that reads and writes is told, also by another table of the same cells.
func TestTransactionIsShared(t *testing.T) {
	m := filled(t, 3, 0, has("a", "1"))
	x := begun(t, m, 1)
	y, other := of(t, x, 0, 3), of(t, x, 0, 3)
	puts(t, y, "b", "2")
	lists(t, other, has("a", "1"), has("b", "2"))
	done(t, x.Write(2, has("c", "3")))
	lists(t, y, has("a", "1"), has("b", "2"), has("c", "3"))
	removes(t, other, "a", true)
	lists(t, y, has("b", "2"), has("c", "3"))
	done(t, x.Abort())
	refuses(t, y, api.ErrOver)
	refuses(t, other, api.ErrOver)
}
