package names_test

import (
	"slices"
	"strings"
	"testing"
	"unsafe"

	"ledgerstone/api"
	"ledgerstone/names"
)

// overwrite writes over a list, its spare room too.
func overwrite(l list) {
	for i := range l[:cap(l)] {
		l[:cap(l)][i] = "over"
	}
}

// R3: a list that was told may be written over: none that was told ahead of it or is told behind it changes, nor does what is told else.
func TestToldMayBeWrittenOver(t *testing.T) {
	for n := 1; n <= 16; n++ {
		want := append(times("a", n-1), "b")
		path := pathOf(want...)
		first, _ := names.Split(path)
		second, _ := names.Split(path)
		overwrite(first)
		_ = append(first, "behind")
		if !slices.Equal(second, want) {
			t.Fatal(second)
		}
		splits(t, path, want...)
		joins(t, path, second...)
		goesUp(t, path, pathOf(want[:n-1]...), "b")
		within(t, true, path, path)
	}
}

// R3: what is handed to Join is not changed, its spare room neither, and not kept.
func TestHandedInStays(t *testing.T) {
	bad := badNames()
	for n := range 20 {
		for _, s := range append(goodNames(), bad...) {
			whole := append(times("a", n), s, "spare", "room")
			before := slices.Clone(whole)
			got, err := names.Join(whole[: n+1 : n+3])
			if !slices.Equal(whole, before) {
				t.Fatalf("Join of %q left %q", before, whole)
			}
			overwrite(whole)
			if want, wantErr := modelJoin(before[:n+1]); got != want || err != wantErr {
				t.Fatalf("Join of %q told %q %v", before[:n+1], got, err)
			}
			again, againErr := names.Join(before[:n+1])
			if again != got || againErr != err {
				t.Fatalf("Join of %q told %q %v, then %q %v", before[:n+1], got, err, again, againErr)
			}
		}
	}
}

// lies is whether a byte of part stands in the memory of whole.
func lies(part, whole string) bool {
	if part == "" || whole == "" {
		return false
	}
	first, start := uintptr(unsafe.Pointer(unsafe.StringData(part))), uintptr(unsafe.Pointer(unsafe.StringData(whole)))
	return first < start+uintptr(len(whole)) && start < first+uintptr(len(part))
}

// R3: what is told is new memory: no text of it lies in what was handed in.
func TestToldIsNew(t *testing.T) {
	for _, l := range []list{{"a"}, {"abc", "def"}, {long(60), long(59), "b"}, times("name", 16)} {
		path := strings.Clone(pathOf(l...))
		if !lies(path[1:], path) {
			t.Fatal("the test itself")
		}
		told, _ := names.Split(path)
		up, last, _ := names.Up(path)
		for _, s := range append(told, up, last) {
			if lies(s, path) {
				t.Fatalf("%q of %q is not new", s, path)
			}
		}
		joined, _ := names.Join(told)
		for _, s := range told {
			if lies(joined, s) {
				t.Fatalf("%q of %q is not new", joined, told)
			}
		}
	}
}

// R4: a call tells the same again, whatever was called between.
func TestNothingIsKept(t *testing.T) {
	for _, path := range []string{"/", "/a", "/a/b", "/b/a", strings.Repeat("/a", 16), byHand(400)} {
		want, _ := modelSplit(path)
		for _, between := range append(noPaths(), "/x", "/x/y", "/..", "/") {
			_, _ = names.Split(between)
			_, _, _ = names.Up(between)
			_, _ = names.Join(list{between})
			_ = names.Within(between, path)
			_ = names.Name(between)
			splits(t, path, want...)
			joins(t, path, want...)
		}
	}
}

// R6: an empty list and none are the same.
func TestEmptyAndNone(t *testing.T) {
	for _, l := range []list{nil, {}, make(list, 0, 3), list{"a", "b"}[:0], list{"", "/"}[:0]} {
		path, err := names.Join(l)
		if path != "/" || err != api.OK {
			t.Fatal(path, err)
		}
	}
}
