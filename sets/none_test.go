package sets_test

import (
	"testing"

	"ledgerstone/api"
	"ledgerstone/sets"
)

// busy are sets with reads, writes and scopes.
func busy[T any](t *testing.T, v T) *sets.Sets[T] {
	t.Helper()
	s := sets.New[T]()
	done(t, s.Read(0, 1), s.Write(0, v), s.Mark(), s.Write(1, v), s.Read(2, 3), s.Mark(), s.Write(0, v))
	return s
}

// notSets are sets that New did not make, and none.
func notSets[T any](t *testing.T, v T) []*sets.Sets[T] {
	t.Helper()
	s := busy(t, v)
	copied := *s
	other := sets.New[T]()
	*other = *s
	emptied := busy(t, v)
	*emptied = sets.Sets[T]{}
	var within struct{ s sets.Sets[T] }
	within.s = *s
	return []*sets.Sets[T]{nil, {}, new(sets.Sets[T]), &copied, other, emptied, &within.s}
}

// noSets asks each call of sets that are none, whatever the arguments are.
func noSets[T comparable](t *testing.T, v T) {
	t.Helper()
	for k, s := range notSets(t, v) {
		for range 2 {
			for _, i := range append(noCells(), 0, 1, 2, 1023) {
				for _, version := range append(noVersions(), versions()...) {
					tells(t, s.Read(i, version), api.ErrNil, k, i, version)
				}
				tells(t, s.Write(i, v), api.ErrNil, k, i)
				sawNone(t, s, i, k)
				hasNone(t, s, i, k)
			}
			reads(t, s)
			writes(t, s)
			deep(t, s, 0, k)
			tells(t, s.Mark(), api.ErrNil, k)
			tells(t, s.Keep(), api.ErrNil, k)
			tells(t, s.Undo(), api.ErrNil, k)
		}
	}
}

// R5: sets that are nil, or that New did not make: of plain numbers, and of something else.
func TestNoSets(t *testing.T) {
	noSets(t, 5)
	noSets(t, "text")
	noSets(t, any(&pair{}))
	noSets(t, struct{}{})
}

// R5: a copy by value is no sets, and what is asked of it leaves those that it is of as they were.
func TestCopyLeavesTheFirst(t *testing.T) {
	s := busy(t, "a")
	copied := *s
	copied.Read(5, 5)
	copied.Read(0, 9)
	copied.Write(0, "x")
	copied.Write(9, "x")
	copied.Mark()
	copied.Keep()
	copied.Undo()
	copied.Undo()
	spoil(copied.Reads())
	spoil(copied.Writes())
	if got, wanted := scopes(s, 300), scopes(busy(t, "a"), 300); got != wanted {
		t.Fatal("not as it was:", got, wanted)
	}
}

// Errors: where several hold, the one that the table names first is told, and all is left as it was.
func TestWhichErrorComesFirst(t *testing.T) {
	type made = *sets.Sets[int]
	few := func() made { return busy(t, 4) }
	full := func() made { // the reads and the writes are full, in the last of eight scopes
		s := sets.New[int]()
		for range 7 {
			done(t, s.Mark())
		}
		for k := range 256 {
			done(t, s.Read(k, 7), s.Write(k, k))
		}
		done(t, s.Mark())
		return s
	}
	for _, build := range []func() made{few, full} {
		for _, i := range noCells() {
			refuses(t, build, api.ErrArg, func(s made) api.Errno { return s.Read(i, -1) }, "no cell, no version", i)
			refuses(t, build, api.ErrArg, func(s made) api.Errno { return s.Read(i, 7) }, "no cell", i)
			refuses(t, build, api.ErrArg, func(s made) api.Errno { return s.Write(i, 7) }, "no cell", i)
		}
		for _, version := range noVersions() {
			refuses(t, build, api.ErrArg, func(s made) api.Errno { return s.Read(0, version) }, "no version, and another one", version)
			refuses(t, build, api.ErrArg, func(s made) api.Errno { return s.Read(1023, version) }, "no version, and perhaps too many", version)
		}
	}
	refuses(t, full, api.ErrStale, func(s made) api.Errno { return s.Read(255, 8) }, "another version, and too many")
	refuses(t, full, api.ErrLong, func(s made) api.Errno { return s.Read(256, 8) }, "too many")
	refuses(t, full, api.ErrLong, func(s made) api.Errno { return s.Write(256, 8) }, "too many")
	refuses(t, full, api.ErrLong, made.Mark, "too deep")
	refuses(t, few, api.ErrStale, func(s made) api.Errno { return s.Read(0, 0) }, "another version")
	refuses(t, few, api.ErrStale, func(s made) api.Errno { return s.Read(2, 4) }, "another version")
}
