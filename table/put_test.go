package table_test

import (
	"fmt"
	"slices"
	"testing"

	"ledgerstone/api"
	"ledgerstone/tl2"
)

// P20.3: a key that is new comes to its place, whatever stands there: each place in tables of all sizes that are filled in part, and the cells ahead of it are not written, all behind it are.
func TestPutAtEachPlace(t *testing.T) {
	for _, n := range []int{1, 2, 3, 4, 7, 100, 199, 200} {
		for _, used := range []int{0, 1, 2, n / 2, n - 1} {
			if used >= n {
				continue
			}
			for k := range used + 1 {
				l := many(used)
				m := filled(t, n+3, 2, l...)
				x := begun(t, m, 1)
				y := of(t, x, 2, n)
				puts(t, y, key(2*k), "new")
				want := slices.Insert(l, k, has(key(2*k), "new"))
				wrote(t, x, upTo(2+k, 2+used)...)
				hold(t, x, 2, padded(n, want...)...)
				lists(t, y, want...)
				gets(t, y, key(2*k), "new")
			}
		}
	}
}

// P20.3: a Put of a key that is there puts its value alone: that cell is written, no other one.
func TestPutOfAKeyThatIsThere(t *testing.T) {
	for _, n := range []int{1, 2, 3, 4, 7, 100, 199, 200} {
		for _, used := range []int{1, 2, n / 2, n - 1, n} {
			if used > n {
				continue
			}
			for k := range used {
				l := many(used)
				x := begun(t, filled(t, n+3, 2, l...), 1)
				y := of(t, x, 2, n)
				puts(t, y, l[k].Key, "")
				l[k].Value = ""
				wrote(t, x, 2+k)
				hold(t, x, 2, padded(n, l...)...)
				puts(t, y, l[k].Key, "other")
				l[k].Value = "other"
				wrote(t, x, 2+k)
				lists(t, y, l...)
			}
		}
	}
}

// P20.3: a Put of the value that is there writes nothing; also where the value is empty, the key is, and the table is full.
func TestPutOfTheValueThatIsThere(t *testing.T) {
	for _, l := range [][]entry{{has("", "")}, {has("", "v")}, {has("a", "")}, {has("", ""), has("a", ""), has("b", "w")}, many(4)} {
		for n := len(l); n < 6; n++ {
			y, x := alone(t, n, l...)
			for _, e := range l {
				puts(t, y, e.Key, e.Value)
			}
			wrote(t, x)
			lists(t, y, l...)
		}
	}
}

// P20.3: only cells whose entry is another one than ahead are written, also among those that the transaction has written itself, and those whose value goes back to what the memory holds.
func TestOnlyWhatChangesIsWritten(t *testing.T) {
	y, x := alone(t, 6, keyed("b", "d", "f")...)
	puts(t, y, "e", "x")
	wrote(t, x, 2, 3)
	puts(t, y, "d", "1")
	wrote(t, x, 2, 3)
	removes(t, y, "e", true)
	wrote(t, x, 2, 3) // they stay written, with what the memory holds
	lists(t, y, keyed("b", "d", "f")...)
	puts(t, y, "b", "9")
	wrote(t, x, 0, 2, 3)
	puts(t, y, "b", "0")
	wrote(t, x, 0, 2, 3)
	removes(t, y, "d", true)
	wrote(t, x, 0, 1, 2, 3)
	puts(t, y, "g", "")
	wrote(t, x, 0, 1, 2, 3)
	puts(t, y, "h", "")
	wrote(t, x, 0, 1, 2, 3)
	puts(t, y, "i", "")
	wrote(t, x, 0, 1, 2, 3, 4)
}

// P20.3: in a scope what is not written stays unwritten: behind Undo, and in the lists that tell it.
func TestPutInScopes(t *testing.T) {
	y, x := alone(t, 4, keyed("b", "d")...)
	puts(t, y, "c", "x")
	done(t, x.Mark())
	puts(t, y, "a", "y")
	removes(t, y, "d", true)
	lists(t, y, has("a", "y"), has("b", "0"), has("c", "x"))
	done(t, x.Undo())
	lists(t, y, has("b", "0"), has("c", "x"), has("d", "1"))
	wrote(t, x, 1, 2)
	done(t, x.Mark())
	puts(t, y, "a", "y")
	done(t, x.Keep())
	lists(t, y, has("a", "y"), has("b", "0"), has("c", "x"), has("d", "1"))
	tells(t, y.Put("e", "z"), api.ErrFull)
	wrote(t, x, 0, 1, 2, 3)
}

// P20.3, R2: of a full table a key that is not there is refused, wherever its place is, and nothing changes; one that is there is taken.
func TestPutIntoAFullTable(t *testing.T) {
	for _, n := range []int{1, 2, 3, 7, 199, 200} {
		l := many(n)
		m := filled(t, n+2, 1, l...)
		x := begun(t, m, 1)
		y := of(t, x, 1, n)
		lists(t, y, l...)
		before := whole(m, x)
		for k := range n + 1 {
			tells(t, y.Put(key(2*k), "new"), api.ErrFull, n, k)
			tells(t, y.Put(key(2*k), ""), api.ErrFull, n, k)
		}
		tells(t, y.Put("", ""), api.ErrFull, n)
		tells(t, y.Put("~", ""), api.ErrFull, n)
		if behind := whole(m, x); behind != before {
			t.Fatal("not as it was:", before, behind)
		}
		puts(t, y, l[n/2].Key, "new")
		removes(t, y, l[n-1].Key, true)
		puts(t, y, "", "room")
		tells(t, y.Put(l[n-1].Key, "new"), api.ErrFull, n)
	}
}

// P20.3: the empty key is put ahead of all, and taken away, as any other.
func TestPutOfTheEmptyKey(t *testing.T) {
	y, x := alone(t, 3)
	puts(t, y, "", "")
	hold(t, x, 0, has("", ""), nothing, nothing)
	gets(t, y, "", "")
	puts(t, y, "a", "1")
	puts(t, y, "", "2")
	lists(t, y, has("", "2"), has("a", "1"))
	removes(t, y, "", true)
	removes(t, y, "", false)
	lists(t, y, has("a", "1"))
	lacks(t, y, "")
	puts(t, y, "b", "3")
	puts(t, y, "", "4")
	lists(t, y, has("", "4"), has("a", "1"), has("b", "3"))
	tells(t, y.Put("\x00", ""), api.ErrFull)
	hold(t, x, 0, has("", "4"), has("a", "1"), has("b", "3"))
}

// P20.3: 200 keys, put rising, falling, and from the midst on.
func TestPutInAnyOrder(t *testing.T) {
	const n = 200
	for name, at := range map[string]func(k int) int{
		"rising":  func(k int) int { return k },
		"falling": func(k int) int { return n - 1 - k },
		"mixed":   func(k int) int { return k * 77 % n },
	} {
		y, x := alone(t, n)
		for k := range n {
			puts(t, y, key(at(k)), fmt.Sprint(at(k)))
		}
		tells(t, y.Put("x", ""), api.ErrFull, name)
		for k := range n {
			gets(t, y, key(k), fmt.Sprint(k))
			hold(t, x, k, has(key(k), fmt.Sprint(k)))
		}
		for k := range n {
			removes(t, y, key(at(k)), true)
			removes(t, y, key(at(k)), false)
		}
		lists(t, y)
		hold(t, x, 0, padded(n)...)
	}
}

// P20.3: cells outside of the table stay, whatever they hold, and are neither read nor written.
func TestCellsOutsideStay(t *testing.T) {
	outside := []entry{{Key: "x"}, has("z", "1")}
	m := filled(t, 7, 0, append(slices.Clone(outside), has("b", ""))...)
	for i, e := range outside {
		done(t, m.Fill(5+i, e))
	}
	x := begun(t, m, 1)
	y := of(t, x, 2, 3)
	puts(t, y, "a", "1")
	puts(t, y, "c", "1")
	tells(t, y.Put("d", ""), api.ErrFull)
	removes(t, y, "a", true)
	removes(t, y, "x", false)
	removes(t, y, "z", false)
	puts(t, y, "d", "1")
	hasRead(t, x, 2, 3, 4)
	wrote(t, x, 2, 3, 4)
	hold(t, x, 0, outside[0], outside[1], has("b", ""), has("c", "1"), has("d", "1"), outside[0], outside[1])
}

// P20.3: two tables side by side in one memory, and one of either's parts.
func TestTablesSideBySide(t *testing.T) {
	m := empty(t, 7)
	x := begun(t, m, 1)
	y, z := of(t, x, 0, 3), of(t, x, 3, 4)
	puts(t, y, "b", "1")
	puts(t, z, "b", "2")
	puts(t, z, "a", "3")
	puts(t, y, "c", "4")
	lists(t, y, has("b", "1"), has("c", "4"))
	lists(t, z, has("a", "3"), has("b", "2"))
	puts(t, y, "a", "5")
	tells(t, y.Put("d", "6"), api.ErrFull)
	removes(t, z, "b", true)
	gets(t, y, "b", "1")
	lacks(t, z, "b")
	hold(t, x, 0, has("a", "5"), has("b", "1"), has("c", "4"), has("a", "3"), nothing, nothing, nothing)
	refuses(t, of(t, x, 0, 7), api.ErrState) // both of them are none
	commits(t, x)
	x = begun(t, m, 1)
	lists(t, of(t, x, 0, 3), has("a", "5"), has("b", "1"), has("c", "4"))
	lists(t, of(t, x, 3, 4), has("a", "3"))
}

// P20.3: behind a commit the next transaction tells what was put, behind an abort it does not; what another one has put meanwhile is not told.
func TestPutAndCommit(t *testing.T) {
	m := filled(t, 3, 0, keyed("b")...)
	x := begun(t, m, 1)
	y := of(t, x, 0, 3)
	puts(t, y, "a", "9")
	removes(t, y, "b", true)
	puts(t, y, "c", "8")
	lists(t, of(t, begun(t, m, 2), 0, 3), keyed("b")...)
	commits(t, x)
	z := begun(t, m, 2)
	lists(t, of(t, z, 0, 3), has("a", "9"), has("c", "8"))
	puts(t, of(t, z, 0, 3), "b", "7")
	done(t, z.Abort())
	lists(t, of(t, begun(t, m, 3), 0, 3), has("a", "9"), has("c", "8"))
	z = begun(t, m, 2)
	removes(t, of(t, z, 0, 3), "a", true)
	z.Step()
	done(t, z.Abort())
	lists(t, of(t, begun(t, m, 3), 0, 3), has("a", "9"), has("c", "8"))
}

// P20.3: a Put that writes nothing makes no version: who has read the cells meanwhile goes on.
func TestPutOfNothingNew(t *testing.T) {
	m := filled(t, 3, 0, keyed("a", "b")...)
	x, other := begun(t, m, 1), begun(t, m, 2)
	lists(t, of(t, other, 0, 3), keyed("a", "b")...)
	y := of(t, x, 0, 3)
	puts(t, y, "a", "0")
	removes(t, y, "c", false)
	tells(t, of(t, x, 0, 2).Put("c", ""), api.ErrFull)
	commits(t, x)
	if m.Clock() != 0 || x.Version() != 0 {
		t.Fatal(m.Clock(), x.Version())
	}
	puts(t, of(t, other, 0, 3), "c", "2")
	commits(t, other)
	if m.Clock() != 1 || other.Status() != tl2.Done {
		t.Fatal(m.Clock(), other.Status())
	}
}

// P20.3: two transactions that put other keys into one table: since each reads all cells, one of them fails.
func TestTwoThatPut(t *testing.T) {
	m := filled(t, 8, 0, keyed("a", "b", "c")...)
	x, other := begun(t, m, 1), begun(t, m, 2)
	puts(t, of(t, x, 0, 8), "d", "x")
	puts(t, of(t, other, 0, 8), "a", "y")
	commits(t, x)
	for other.Status() != tl2.Failed {
		if status, err := other.Step(); status == tl2.Done {
			t.Fatal(status, err)
		}
	}
	lists(t, of(t, begun(t, m, 3), 0, 8), append(keyed("a", "b", "c"), has("d", "x"))...)
}
