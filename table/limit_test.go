package table_test

import (
	"slices"
	"testing"

	"ledgerstone/api"
	"ledgerstone/table"
	"ledgerstone/tl2"
)

// tight is a transaction that can write left more cells, and a table in cells 0 to n - 1 of its memory, which hold l; it has written the cells from 300 on.
func tight(t *testing.T, left, n int, l ...entry) (*table.Table, *tx) {
	t.Helper()
	x := begun(t, filled(t, 1024, 0, l...), 1)
	for k := range 256 - left {
		done(t, x.Write(300+k, nothing))
	}
	return of(t, x, 0, n), x
}

// inPart is what cells hold when of those that are to change but the first so many did.
func inPart(before, behind []entry, changes int) []entry {
	out := slices.Clone(before)
	for i := range out {
		if out[i] != behind[i] && changes > 0 {
			out[i] = behind[i]
			changes--
		}
	}
	return out
}

// P20.3: where a Put needs more writes than the transaction has left: ErrLong; what was written, rising, stays; the transaction is Open.
func TestPutWithTooManyWrites(t *testing.T) {
	for _, used := range []int{0, 1, 4, 5} {
		for k := range used + 1 {
			before := padded(6, many(used)...)
			behind := slices.Insert(slices.Clone(before)[:5], k, has(key(2*k), "new"))
			needs := used + 1 - k
			for left := range needs + 2 {
				y, x := tight(t, left, 6, before...)
				want := api.ErrLong
				if left >= needs {
					want = api.OK
				}
				tells(t, y.Put(key(2*k), "new"), want, used, k, left)
				hold(t, x, 0, inPart(before, behind, left)...)
				wrote(t, x, append(upTo(k, k+min(left, needs)-1), upTo(300, 555-left)...)...)
				hasRead(t, x, 0, 1, 2, 3, 4, 5)
				if x.Status() != tl2.Open {
					t.Fatal(x.Status())
				}
			}
		}
	}
}

// P20.3: a value that is put anew needs one write; none, if the cell is written already, or the value is there.
func TestPutOfAValueWithTooManyWrites(t *testing.T) {
	for k, key := range []string{"a", "b", "c"} {
		y, x := tight(t, 0, 4, keyed("a", "b", "c")...)
		tells(t, y.Put(key, "new"), api.ErrLong)
		lists(t, y, keyed("a", "b", "c")...)
		puts(t, y, key, keyed("a", "b", "c")[k].Value)
		wrote(t, x, upTo(300, 555)...)

		y, x = tight(t, 1, 4, keyed("a", "b", "c")...)
		puts(t, y, key, "new")
		puts(t, y, key, "newer")
		gets(t, y, key, "newer")
		wrote(t, x, append([]int{k}, upTo(300, 554)...)...)
		tells(t, y.Put("d", "new"), api.ErrLong)
		lacks(t, y, "d")
		tells(t, y.Put(keyed("a", "b", "c")[(k+1)%3].Key, "new"), api.ErrLong)
	}
}

// P20.3, R2: where a Remove needs more writes than the transaction has left: false and ErrLong; what was written, rising, stays; the transaction is Open.
func TestRemoveWithTooManyWrites(t *testing.T) {
	for _, used := range []int{1, 2, 5, 6} {
		for k := range used {
			before := padded(6, many(used)...)
			behind := padded(6, slices.Delete(many(used), k, k+1)...)
			needs := used - k
			for left := range needs + 2 {
				y, x := tight(t, left, 6, before...)
				ok, err := y.Remove(before[k].Key)
				if want := left >= needs; ok != want || (err == api.OK) != want || !want && err != api.ErrLong {
					t.Fatal(used, k, left, ok, err)
				}
				hold(t, x, 0, inPart(before, behind, left)...)
				wrote(t, x, append(upTo(k, k+min(left, needs)-1), upTo(300, 555-left)...)...)
				if x.Status() != tl2.Open {
					t.Fatal(x.Status())
				}
			}
		}
	}
}

// P20.3: cells that are written already need no room: those of the table too.
func TestWritesThatAreThere(t *testing.T) {
	y, x := tight(t, 6, 6)
	for _, key := range []string{"c", "a", "e", "f", "b", "d"} {
		puts(t, y, key, "v")
	}
	wrote(t, x, append(upTo(0, 5), upTo(300, 549)...)...)
	tells(t, y.Put("g", ""), api.ErrFull)
	for _, key := range []string{"a", "f", "c"} {
		removes(t, y, key, true)
		puts(t, y, key+"x", "w")
	}
	lists(t, y, has("ax", "w"), has("b", "v"), has("cx", "w"), has("d", "v"), has("e", "v"), has("fx", "w"))
	wrote(t, x, append(upTo(0, 5), upTo(300, 549)...)...)
}

// P20.3: writing ends with the first cell that errs: one behind it, that was written already, stays as it was.
func TestWritingEndsWithTheError(t *testing.T) {
	before := keyed("b", "c", "d", "e")
	y, x := tight(t, 1, 6, before...)
	done(t, x.Write(3, has("e", "own")))
	before[3].Value = "own"
	tells(t, y.Put("a", "new"), api.ErrLong)
	hold(t, x, 0, padded(6, before...)...)
	if ok, err := y.Remove("c"); ok || err != api.ErrLong {
		t.Fatal(ok, err)
	}
	hold(t, x, 0, padded(6, before...)...)
	removes(t, y, "e", true)
	hold(t, x, 0, padded(6, before[:3]...)...)
}

// P20.3, R2: a want of room in the table is told ahead of one of writes: nothing is written.
func TestFullComesAheadOfWriting(t *testing.T) {
	for left := range 3 {
		y, x := tight(t, left, 3, keyed("a", "b", "c")...)
		tells(t, y.Put("aa", ""), api.ErrFull, left)
		wrote(t, x, upTo(300, 555-left)...)
		lists(t, y, keyed("a", "b", "c")...)
	}
}

// P20.3: what an error of writing has left is undone with the scope around it.
func TestWritesInPartAreUndone(t *testing.T) {
	y, x := tight(t, 2, 6, keyed("b", "c", "d")...)
	done(t, x.Mark())
	tells(t, y.Put("a", "new"), api.ErrLong)
	wrote(t, x, append([]int{0, 1}, upTo(300, 553)...)...)
	done(t, x.Undo())
	lists(t, y, keyed("b", "c", "d")...)
	puts(t, y, "cc", "2")
	lists(t, y, has("b", "0"), has("c", "1"), has("cc", "2"), has("d", "2"))
}
