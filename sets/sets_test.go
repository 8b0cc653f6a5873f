package sets_test

import (
	"fmt"
	"math"
	"slices"
	"strings"
	"testing"

	"ledgerstone/api"
	"ledgerstone/sets"
)

// tells is an error that is to be want.
func tells(t *testing.T, got, want api.Errno, what ...any) {
	t.Helper()
	if got != want {
		t.Fatal("told", got, "wanted", want, what)
	}
}

// done is calls that are to tell OK.
func done(t *testing.T, l ...api.Errno) {
	t.Helper()
	for i, err := range l {
		tells(t, err, api.OK, "call", i)
	}
}

// sees is a Seen that is to tell that version.
func sees[T any](t *testing.T, s face[T], i int, want int64, what ...any) {
	t.Helper()
	if got, ok := s.Seen(i); got != want || !ok {
		t.Fatal("Seen", i, got, ok, "wanted", want, what)
	}
}

// sawNone is a Seen that is to tell that there is none.
func sawNone[T any](t *testing.T, s face[T], i int, what ...any) {
	t.Helper()
	if got, ok := s.Seen(i); got != 0 || ok {
		t.Fatal("Seen", i, got, ok, what)
	}
}

// has is a Value that is to tell that.
func has[T comparable](t *testing.T, s face[T], i int, want T, what ...any) {
	t.Helper()
	if got, ok := s.Value(i); got != want || !ok {
		t.Fatal("Value", i, got, ok, "wanted", want, what)
	}
}

// hasNone is a Value that is to tell that there is none.
func hasNone[T comparable](t *testing.T, s face[T], i int, what ...any) {
	t.Helper()
	if got, ok := s.Value(i); got != *new(T) || ok {
		t.Fatal("Value", i, got, ok, what)
	}
}

// reads is Reads that are to tell these.
func reads[T any](t *testing.T, s face[T], want ...int) {
	t.Helper()
	if got := s.Reads(); !slices.Equal(got, want) {
		t.Fatal("Reads", got, "wanted", want)
	}
}

// writes is Writes that are to tell these.
func writes[T any](t *testing.T, s face[T], want ...int) {
	t.Helper()
	if got := s.Writes(); !slices.Equal(got, want) {
		t.Fatal("Writes", got, "wanted", want)
	}
}

// deep is a Depth that is to be want.
func deep[T any](t *testing.T, s face[T], want int, what ...any) {
	t.Helper()
	if got := s.Depth(); got != want {
		t.Fatal("Depth", got, "wanted", want, what)
	}
}

// whole is all that s tells of the cells from 0 to n - 1, of the last ones, and of numbers that are none.
func whole[T any](s face[T], n int) string {
	var out strings.Builder
	fmt.Fprintln(&out, s.Depth(), s.Reads(), s.Writes())
	ask := func(i int) {
		version, isRead := s.Seen(i)
		v, isWritten := s.Value(i)
		fmt.Fprintln(&out, i, version, isRead, v, isWritten)
	}
	for i := range n {
		ask(i)
	}
	for _, i := range []int{math.MinInt, -1, 1023, 1024, math.MaxInt} {
		ask(i)
	}
	return out.String()
}

// scopes is whole of s, and again behind each Undo till no scope is open: all that may ever be told. It leaves s with no scope.
func scopes[T any](s face[T], n int) string {
	out := whole(s, n)
	for s.Depth() > 0 {
		out += fmt.Sprintln(s.Undo()) + whole(s, n)
	}
	return out
}

// refuses is a call, in the state to which build leads, that is to tell that and to leave all as it was, what an Undo brings back too.
func refuses[T any](t *testing.T, build func() *sets.Sets[T], want api.Errno, call func(s *sets.Sets[T]) api.Errno, what ...any) {
	t.Helper()
	s := build()
	for range 2 {
		tells(t, call(s), want, what...)
	}
	if got, wanted := scopes(s, 300), scopes(build(), 300); got != wanted {
		t.Fatal("not as it was:", got, wanted, what)
	}
}

// noCells are numbers that are no cells; some are cells in their lower bits.
func noCells() []int {
	return []int{math.MinInt, math.MinInt + 1, -1 << 32, -1<<32 + 1, -1024, -1023, -2, -1, 1024, 1025, 2047, 2048, 1 << 31, 1 << 32, 1<<32 + 1, math.MaxInt - 1, math.MaxInt}
}

// noVersions are versions that may not be.
func noVersions() []int64 {
	return []int64{math.MinInt64, math.MinInt64 + 1, -1 << 32, -1<<32 + 5, -2, -1}
}

// versions are some that may be; many are the same in their lower bits.
func versions() []int64 {
	return []int64{0, 1, 5, 255, 256, 1 << 31, 1 << 32, 1<<32 + 1, 1<<32 + 5, 1 << 40, 1<<40 + 1, math.MaxInt64 - 1, math.MaxInt64}
}

// The chapter's examples, with all that may be told beside them.
func TestExamples(t *testing.T) {
	s := sets.New[string]()
	done(t, s.Write(1, "a"), s.Mark(), s.Write(1, "b"), s.Write(2, "c"), s.Read(3, 5))
	has(t, s, 1, "b")
	has(t, s, 2, "c")
	sees(t, s, 3, 5)
	deep(t, s, 1)
	done(t, s.Undo())
	has(t, s, 1, "a")
	hasNone(t, s, 2)
	sees(t, s, 3, 5)
	deep(t, s, 0)
	tells(t, s.Read(3, 6), api.ErrStale)
	sees(t, s, 3, 5)
	done(t, s.Mark(), s.Write(2, "d"), s.Keep())
	has(t, s, 2, "d")
	tells(t, s.Undo(), api.ErrScope)
	has(t, s, 2, "d")
	has(t, s, 1, "a")
	reads(t, s, 3)
	writes(t, s, 1, 2)
}

// P15.1: in new sets there is nothing, and each New answers others.
func TestNew(t *testing.T) {
	s, other := sets.New[string](), sets.New[string]()
	if s == nil || other == nil || s == other {
		t.Fatal(s == nil, other == nil, s == other)
	}
	empty := func(s *sets.Sets[string]) {
		t.Helper()
		for i := -1; i <= 1024; i++ {
			sawNone(t, s, i)
			hasNone(t, s, i)
		}
		reads(t, s)
		writes(t, s)
		deep(t, s, 0)
	}
	empty(s)
	done(t, s.Write(1, "a"), s.Mark(), s.Read(0, 7), s.Write(1023, "b"), s.Mark())
	empty(other)
	empty(sets.New[string]())
	tells(t, other.Keep(), api.ErrScope)
	done(t, other.Read(0, 8), other.Write(1, "x"), s.Undo())
	has(t, s, 1, "a")
	sees(t, s, 0, 7)
	has(t, s, 1023, "b")
}
