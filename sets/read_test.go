package sets_test

import (
	"math"
	"testing"

	"ledgerstone/api"
	"ledgerstone/sets"
)

// P15.1: Read of each cell there may be, with each kind of version; again with the same one, and with others.
func TestRead(t *testing.T) {
	for _, i := range []int{0, 1, 2, 255, 256, 511, 512, 1022, 1023} {
		for _, version := range versions() {
			s := sets.New[int]()
			sawNone(t, s, i)
			done(t, s.Read(i, version), s.Read(i, version))
			sees(t, s, i, version)
			reads(t, s, i)
			writes(t, s)
			hasNone(t, s, i)
			for _, other := range versions() {
				if other != version {
					tells(t, s.Read(i, other), api.ErrStale, i, version, other)
				}
			}
			sees(t, s, i, version)
			done(t, s.Read(i, version))
			reads(t, s, i)
		}
	}
}

// P15.1: every cell may be read, and no other number.
func TestReadOfEachCell(t *testing.T) {
	for i := range 1024 {
		s := sets.New[string]()
		done(t, s.Read(i, int64(i)))
		for j := -1; j <= 1024; j++ {
			if j != i {
				sawNone(t, s, j, i)
			}
		}
		sees(t, s, i, int64(i))
		reads(t, s, i)
	}
	for _, i := range noCells() {
		for _, version := range append(noVersions(), versions()...) {
			s := sets.New[string]()
			tells(t, s.Read(i, version), api.ErrArg, i, version)
			sawNone(t, s, i)
			reads(t, s)
		}
	}
}

// P15.1: a version below 0 is refused, whether the cell was read or not.
func TestReadOfNoVersion(t *testing.T) {
	for _, version := range noVersions() {
		s := sets.New[int]()
		tells(t, s.Read(4, version), api.ErrArg, version)
		sawNone(t, s, 4)
		done(t, s.Read(4, 0))
		tells(t, s.Read(4, version), api.ErrArg, version)
		sees(t, s, 4, 0)
		reads(t, s, 4)
	}
}

// P15.1: Read again, with the same version and with another one, within the same scope, in one behind it, behind a Keep and behind an Undo.
func TestReadAgain(t *testing.T) {
	again := func(s *sets.Sets[int], where string) {
		t.Helper()
		for _, other := range []int64{0, 4, 6, 1<<32 + 5, math.MaxInt64} {
			tells(t, s.Read(3, other), api.ErrStale, where, other)
		}
		done(t, s.Read(3, 5))
		sees(t, s, 3, 5, where)
		reads(t, s, 3)
	}
	s := sets.New[int]()
	done(t, s.Mark(), s.Mark(), s.Read(3, 5))
	again(s, "same scope")
	done(t, s.Mark())
	again(s, "inner scope")
	done(t, s.Undo())
	again(s, "inner scope undone")
	done(t, s.Undo())
	again(s, "its scope undone")
	done(t, s.Mark())
	again(s, "another scope")
	done(t, s.Keep(), s.Keep())
	again(s, "kept")
	deep(t, s, 0)
}

// P15.1: a cell that is written, or was, may be read with any version; reads and writes are apart.
func TestReadOfWritten(t *testing.T) {
	s := sets.New[string]()
	done(t, s.Write(1, "a"), s.Read(1, 9))
	has(t, s, 1, "a")
	sees(t, s, 1, 9)
	done(t, s.Write(1, "b"), s.Read(2, 0), s.Mark(), s.Write(2, "c"), s.Write(3, "d"), s.Undo(), s.Read(3, 4))
	has(t, s, 1, "b")
	hasNone(t, s, 2)
	hasNone(t, s, 3)
	sees(t, s, 1, 9)
	sees(t, s, 2, 0)
	sees(t, s, 3, 4)
	reads(t, s, 1, 2, 3)
	writes(t, s, 1)
	tells(t, s.Read(2, 1), api.ErrStale)
}

// manyReads are sets with n reads, of the cells 0, 3, 6 and so on, cell i with version i + 1.
func manyReads(t *testing.T, n int) *sets.Sets[int] {
	t.Helper()
	s := sets.New[int]()
	for k := range n {
		done(t, s.Read(3*k, int64(3*k+1)))
	}
	return s
}

// P15.1: the 256th read, one more, and one that is there already; of the same version, and of another one.
func TestReadOfTooMany(t *testing.T) {
	full := func() *sets.Sets[int] {
		t.Helper()
		s := manyReads(t, 255)
		done(t, s.Mark(), s.Read(1023, 5), s.Mark())
		if got := len(s.Reads()); got != 256 {
			t.Fatal(got)
		}
		return s
	}
	for _, i := range []int{1, 2, 766, 1022} {
		refuses(t, full, api.ErrLong, func(s *sets.Sets[int]) api.Errno { return s.Read(i, 0) }, i)
		refuses(t, full, api.ErrLong, func(s *sets.Sets[int]) api.Errno { return s.Read(i, math.MaxInt64) }, i)
	}
	for _, i := range []int{0, 3, 762} {
		refuses(t, full, api.OK, func(s *sets.Sets[int]) api.Errno { return s.Read(i, int64(i+1)) }, i)
		refuses(t, full, api.ErrStale, func(s *sets.Sets[int]) api.Errno { return s.Read(i, int64(i)) }, i)
	}
	s := full()
	for s.Depth() > 0 { // reads stay: there is no room behind an Undo either
		done(t, s.Undo())
		tells(t, s.Read(1, 0), api.ErrLong)
		sawNone(t, s, 1)
	}
	done(t, s.Read(1023, 5), s.Write(1, 1))
	if got := s.Reads(); len(got) != 256 || got[255] != 1023 || got[254] != 762 {
		t.Fatal(got)
	}
}

// P15.1, P15.2: the 256 of the reads and those of the writes are apart.
func TestReadsAndWritesAreCountedApart(t *testing.T) {
	s := sets.New[int]()
	for k := range 256 {
		done(t, s.Read(k, 7), s.Write(1023-k, k))
	}
	tells(t, s.Read(256, 7), api.ErrLong)
	tells(t, s.Write(767, 7), api.ErrLong)
	tells(t, s.Read(1023, 7), api.ErrLong)
	tells(t, s.Write(0, 7), api.ErrLong)
	done(t, s.Read(255, 7), s.Write(768, 8))
	if len(s.Reads()) != 256 || len(s.Writes()) != 256 {
		t.Fatal(len(s.Reads()), len(s.Writes()))
	}
	sawNone(t, s, 1023)
	hasNone(t, s, 0)
	has(t, s, 768, 8)
}

// P15.1: Seen of numbers that are no cells, and of cells that were not read, in sets that have reads and writes.
func TestSeenOfNone(t *testing.T) {
	s := manyReads(t, 100)
	done(t, s.Write(1, 5), s.Write(1023, 6))
	for range 2 {
		for _, i := range noCells() {
			sawNone(t, s, i)
		}
		for i := range 1024 {
			if i%3 == 0 && i < 300 {
				sees(t, s, i, int64(i+1))
			} else {
				sawNone(t, s, i)
			}
		}
	}
}
