package names_test

import (
	"math/rand"
	"slices"
	"testing"

	"ledgerstone/api"
	"ledgerstone/names"
)

// pathFollows is what is to hold of a text, without a model; it is whether it is a path.
func pathFollows(t *testing.T, path string) bool {
	t.Helper()
	l, err := names.Split(path)
	up, last, upErr := names.Up(path)
	if err != api.OK {
		if len(l) != 0 || up != "" || last != "" || upErr != err {
			t.Fatalf("%q: %q %v, up %q %q %v", path, l, err, up, last, upErr)
		}
		within(t, false, path, path)
		return false
	}
	isName(t, true, l...)
	joins(t, path, l...)
	within(t, true, path, path)
	within(t, true, path, "/")
	if len(l) == 0 {
		upNot(t, api.ErrPath, path)
		return true
	}
	within(t, true, path, up)
	within(t, false, up, path)
	splits(t, up, l[:len(l)-1]...)
	if last != l[len(l)-1] || upErr != api.OK {
		t.Fatalf("Up of %q told %q %q %v", path, up, last, upErr)
	}
	return true
}

// listFollows is what is to hold of a list, without a model; it is whether it makes a path.
func listFollows(t *testing.T, l list) bool {
	t.Helper()
	path, err := names.Join(l)
	if err != api.OK {
		if path != "" {
			t.Fatalf("Join of %q told %q %v", l, path, err)
		}
		return false
	}
	splits(t, path, l...)
	if !pathFollows(t, path) {
		t.Fatalf("Join of %q told %q, which is no path", l, path)
	}
	for i := range len(l) + 1 { // it lies in each path of its first names
		dir, err := names.Join(l[:i])
		if err != api.OK {
			t.Fatal(l[:i], err)
		}
		within(t, true, path, dir)
		within(t, i == len(l), dir, path)
	}
	return true
}

// P21.4: of all short texts of a few kinds of bytes.
func TestFollowsOfShort(t *testing.T) {
	t.Parallel()
	paths := 0
	for _, path := range append(texts("/.a\x00", 7), texts("/abc", 7)...) {
		if pathFollows(t, path) {
			paths++
		}
	}
	if paths < 1000 {
		t.Fatal("the test itself", paths)
	}
	kinds := list{"", "a", "b", ".", "...", "\x00", "a/b"}
	for n, lists := 0, []list{nil}; n < 5; n++ {
		var next []list
		for _, l := range lists {
			if want := !slices.ContainsFunc(l, func(s string) bool { return s != "a" && s != "b" && s != "..." }); listFollows(t, l) != want {
				t.Fatalf("whether %q is taken is told wrong", l)
			}
			for _, s := range kinds {
				next = append(next, append(slices.Clone(l), s))
			}
		}
		lists = next
	}
}

// P21.4: by chance.
func TestFollowsByChance(t *testing.T) {
	t.Parallel()
	paths, lists := 0, 0
	for seed := range int64(40000) {
		r := rand.New(rand.NewSource(seed))
		if pathFollows(t, anyPath(r)) {
			paths++
		}
		if listFollows(t, anyList(r)) {
			lists++
		}
	}
	if paths < 2000 || lists < 2000 {
		t.Fatal("the test itself", paths, lists)
	}
}
