package tl2_test

import (
	"testing"

	"ledgerstone/api"
	"ledgerstone/cell"
	"ledgerstone/tl2"
)

// P16.2: Read of the first cell, the last, those between, and of none; the values, and the versions with which they are reads.
func TestRead(t *testing.T) {
	for _, n := range []int{1, 2, 3, 200} {
		m := made[int](t, n)
		for i := range n {
			done(t, m.Fill(i, 100+i))
		}
		changes(t, m, 9, n-1, 55)
		changes(t, m, 9, 0, 44)
		x := begun(t, m, 1)
		for i := n - 1; i >= 0; i-- {
			want, version := 100+i, int64(0)
			switch i {
			case 0:
				want, version = 44, 2
			case n - 1:
				want, version = 55, 1
			}
			reads(t, x, i, want, n)
			if got, ok := x.Seen(i); got != version || !ok {
				t.Fatal(n, i, got, ok, "wanted", version)
			}
			has(t, m, i, want, version, 0)
		}
		if len(x.Reads()) != n || len(x.Writes()) != 0 || x.Status() != tl2.Open {
			t.Fatal(n, x.Reads(), x.Writes(), x.Status())
		}
	}
}

// busy is a transaction of owner 1 with reads, writes and open scopes, over four cells; it wrote cells 1 and 3, and read 0 and 1.
func busy(t *testing.T) pair {
	t.Helper()
	m := filled(t, 10, 11, 12, 13)
	changes(t, m, 7, 0, 20)
	p := pair{m, begun(t, m, 1)}
	reads(t, p.x, 0, 20)
	reads(t, p.x, 1, 11)
	done(t, p.x.Write(1, 5), p.x.Mark(), p.x.Write(3, 6), p.x.Mark(), p.x.Write(1, 7))
	return p
}

// P16.2: Read of no cell: it stays Open, and all is as it was.
func TestReadOfNoCell(t *testing.T) {
	for _, i := range noCells(4) {
		refuses(t, func() pair { return busy(t) }, api.ErrArg, reading(t, i), i)
	}
	for _, n := range []int{1, 1024} {
		for _, i := range noCells(n) {
			refuses(t, func() pair { m := made[int](t, n); return pair{m, begun(t, m, 1)} }, api.ErrArg, reading(t, i), n, i)
		}
	}
}

// P16.2: Read of what it has written: that value, the last one; it is no read by that.
func TestReadOfWritten(t *testing.T) {
	m := filled(t, 10, 11)
	x := begun(t, m, 1)
	for _, v := range []int{5, 6, 0, 6, 11} {
		done(t, x.Write(1, v))
		reads(t, x, 1, v)
		reads(t, x, 1, v)
		lists(t, x, nil, []int{1})
		if version, ok := x.Seen(1); version != 0 || ok {
			t.Fatal(version, ok)
		}
	}
	reads(t, x, 0, 10)
	done(t, x.Write(0, 3))
	reads(t, x, 0, 3) // read ahead of the write: it stays a read
	lists(t, x, []int{0}, []int{0, 1})
	has(t, m, 1, 11, 0, 0)
}

// P16.2: what it has written is told whoever has the cell, and whatever version that has.
func TestReadOfWrittenAsksNoCell(t *testing.T) {
	m := filled(t, 10, 11, 12)
	x := begun(t, m, 1)
	reads(t, x, 2, 12)
	done(t, x.Write(0, 5), x.Write(1, 6), x.Write(2, 7), m.Lock(0, 8))
	changes(t, m, 9, 1, 33)
	changes(t, m, 9, 2, 34)
	for range 2 {
		reads(t, x, 0, 5)
		reads(t, x, 1, 6)
		reads(t, x, 2, 7)
	}
	if x.Status() != tl2.Open {
		t.Fatal(x.Status())
	}
	owns(t, m, 8, 0)
}

// P16.2: a cell that was read already, with the version that it has: the same value, and one read.
func TestReadAgain(t *testing.T) {
	m := filled(t, "a", "b")
	changes(t, m, 9, 1, "c")
	x := begun(t, m, 1)
	for range 5 {
		reads(t, x, 1, "c")
		reads(t, x, 0, "a")
		lists(t, x, []int{0, 1}, nil)
		advanced(t, m, m.Clock()+1) // versions that nobody publishes change nothing
	}
	if version, ok := x.Seen(1); version != 1 || !ok {
		t.Fatal(version, ok)
	}
}

// readFails is a Read of cell i that is to fail x, a transaction of owner 1: it owns nothing, its sets and all that others have stay.
func readFails(t *testing.T, m *cell.Memory[int], x *tl2.Tx[int], i int, what ...any) {
	t.Helper()
	readCells, written, depth, before := x.Reads(), x.Writes(), x.Depth(), wholeMemory(m)
	readsNot(t, x, i, api.ErrStale, what...)
	isFailed(t, m, 1, x, what...)
	lists(t, x, readCells, written, what...)
	if after := wholeMemory(m); after != before || x.Depth() != depth {
		t.Fatal("not as it was:", before, after, depth, x.Depth(), what)
	}
	readsNot(t, x, i, api.ErrOver, what...)
}

// P16.2: Read of a cell that has another owner: one that locked it ahead of Begin, or behind it, or behind a read of it.
func TestReadOfOwned(t *testing.T) {
	for _, owner := range owners()[1:] {
		m := filled(t, 10, 11)
		done(t, m.Lock(1, owner))
		x := begun(t, m, 1)
		reads(t, x, 0, 10)
		readFails(t, m, x, 1, owner)
		owns(t, m, owner, 1)

		done(t, m.Unlock(1, owner))
		x = begun(t, m, 1)
		done(t, x.Write(0, 3), m.Lock(1, owner))
		readFails(t, m, x, 1, owner)

		done(t, m.Unlock(1, owner))
		x = begun(t, m, 1)
		reads(t, x, 1, 11)
		done(t, m.Lock(1, owner))
		readFails(t, m, x, 1, owner)
		owns(t, m, owner, 1)
	}
}

// P16.2: a cell that is locked, and free again as it was, is read; the same of one that another transaction locked and gave back.
func TestReadOfUnlocked(t *testing.T) {
	m := filled(t, 10, 11)
	x, y := begun(t, m, 1), begun(t, m, 2)
	done(t, m.Lock(0, 5), m.Unlock(0, 5), y.Write(1, 9))
	goesOn(t, y, 2)
	done(t, y.Abort())
	reads(t, x, 0, 10)
	reads(t, x, 1, 11)
}

// P16.2: a cell that its own number has, by a lock that was not of its end: it has an owner, too; behind it, none.
func TestReadOfOwnLock(t *testing.T) {
	m := filled(t, 10, 11)
	x := begun(t, m, 1)
	done(t, m.Lock(1, 1), m.Lock(0, 2))
	readsNot(t, x, 1, api.ErrStale)
	isFailed(t, m, 1, x)
	has(t, m, 1, 11, 0, 0)
	has(t, m, 0, 10, 0, 2)
}

// P16.2: versions at the beginning, below it, and above it by one or more.
func TestReadOfNewer(t *testing.T) {
	for _, beginning := range []int64{0, 1, 2, 7, 1 << 31, 1 << 32, 1<<40 - 5} {
		for above := int64(-2); above <= 4; above++ {
			version := beginning + above
			if version < 1 {
				continue
			}
			m := filled(t, 10, 11)
			setClock(m, beginning)
			x := begun(t, m, 1)
			advanced(t, m, beginning+4)
			done(t, m.Lock(1, 5), m.Publish(1, 5, 77, version))
			if above > 0 {
				readFails(t, m, x, 1, beginning, above)
				continue
			}
			reads(t, x, 1, 77, beginning, above)
			if got, ok := x.Seen(1); got != version || !ok || x.Status() != tl2.Open {
				t.Fatal(beginning, above, got, ok, x.Status())
			}
		}
	}
}

// P16.2: a cell that another transaction publishes between two reads of it, or between Begin and the first.
func TestReadOfPublished(t *testing.T) {
	m := filled(t, 10, 11, 12)
	x, y := begun(t, m, 1), begun(t, m, 2)
	reads(t, x, 0, 10)
	changes(t, m, 9, 0, 33)
	reads(t, x, 1, 11) // other cells are as they were
	readFails(t, m, x, 0)
	reads(t, y, 1, 11)
	readsNot(t, y, 0, api.ErrStale)
	isFailed(t, m, 2, y)
	z := begun(t, m, 1)
	reads(t, z, 0, 33)
	changes(t, m, 9, 2, 34)
	reads(t, z, 0, 33)
	readFails(t, m, z, 2)
}

// P16.2: another version than it was read with, which is at most the beginning: that too fails it.
func TestReadOfOtherVersion(t *testing.T) {
	for _, first := range []int64{0, 1, 3} {
		for version := first + 1; version <= 5; version++ {
			m := advanced(t, filled(t, 10, 11), 5)
			if first > 0 {
				done(t, m.Lock(1, 5), m.Publish(1, 5, 11, first))
			}
			x := begun(t, m, 1)
			reads(t, x, 1, 11)
			done(t, m.Lock(1, 5), m.Publish(1, 5, 11, version)) // the value is the same
			readFails(t, m, x, 1, first, version)
		}
	}
}

// many is a transaction of owner 1 over 1024 cells, cell i of i + 1, which has read so many of them: 0, 2, 4 and so on.
func many(t *testing.T, n int) pair {
	t.Helper()
	m := made[int](t, 1024)
	for i := range 1024 {
		done(t, m.Fill(i, i+1))
	}
	p := pair{m, begun(t, m, 1)}
	for k := range n {
		reads(t, p.x, 2*k, 2*k+1)
	}
	return p
}

// P16.2: the 256th cell that is read, and the 257th: it stays Open; those that are reads, and those that it wrote, are told still.
func TestReadOfTooMany(t *testing.T) {
	for _, i := range []int{1, 3, 511, 512, 1023} {
		refuses(t, func() pair { return many(t, 256) }, api.ErrLong, reading(t, i), i)
	}
	p := many(t, 255)
	done(t, p.x.Write(777, 7))
	reads(t, p.x, 1001, 1002)
	for range 3 {
		readsNot(t, p.x, 1003, api.ErrLong)
		if version, ok := p.x.Seen(1003); version != 0 || ok || len(p.x.Reads()) != 256 || p.x.Status() != tl2.Open {
			t.Fatal(version, ok, len(p.x.Reads()), p.x.Status())
		}
	}
	reads(t, p.x, 0, 1)
	reads(t, p.x, 1001, 1002)
	reads(t, p.x, 777, 7)
	done(t, p.x.Write(1003, 8), p.x.Mark(), p.x.Write(1005, 8), p.x.Undo())
	reads(t, p.x, 1003, 8)
	readsNot(t, p.x, 1005, api.ErrLong) // its write is undone, and reads stay
	steps(t, p.x, tl2.Ending)
}

// P16.2: where ErrStale and ErrLong both hold, ErrStale counts: it fails.
func TestReadOfTooManyAndStale(t *testing.T) {
	p := many(t, 256)
	done(t, p.m.Lock(1, 5))
	readFails(t, p.m, p.x, 1)
	p = many(t, 256)
	changes(t, p.m, 5, 1, 1)
	readFails(t, p.m, p.x, 1)
	p = many(t, 256)
	changes(t, p.m, 5, 2, 1)
	readFails(t, p.m, p.x, 2)
}
