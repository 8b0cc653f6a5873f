package names_test

import (
	"strings"
	"testing"

	"ledgerstone/names"
)

// P21.3: each path lies in itself, and in the root.
func TestWithinItself(t *testing.T) {
	within(t, true, "/", "/")
	for _, a := range goodNames() {
		within(t, true, "/"+a, "/")
		within(t, true, "/"+a, "/"+a)
		within(t, false, "/", "/"+a)
		for _, b := range goodNames() {
			within(t, true, "/"+a+"/"+b, "/")
			within(t, true, "/"+a+"/"+b, "/"+a)
			within(t, true, "/"+a+"/"+b, "/"+a+"/"+b)
			within(t, false, "/"+a, "/"+a+"/"+b)
			within(t, a == b, "/"+a, "/"+b)
			within(t, a == b, "/"+a+"/c", "/"+b)
			within(t, a == b, "/"+a+"/"+b, "/"+b)
			within(t, a == b, "/"+a+"/"+b, "/"+b+"/"+a)
		}
	}
	for n := 2; n <= 400; n++ {
		within(t, true, byHand(n), "/")
		within(t, true, byHand(n), byHand(n))
	}
}

// P21.3: what is held against the other are names, not bytes: the last name of the directory may be the beginning of another one.
func TestWithinNames(t *testing.T) {
	for _, c := range []struct {
		path, dir string
	}{
		{"/ab", "/a"}, {"/ab/c", "/a"}, {"/a/bc", "/a/b"}, {"/a/bc/d", "/a/b"}, {"/a.", "/a"}, {"/a ", "/a"}, {"/....", "/..."}, {"/a/b/cd", "/a/b/c"},
		{"/a", "/ab"}, {"/a/b", "/ab"}, {"/a/b/c", "/a/bc"}, {"/aa", "/a"}, {"/a/aa", "/a/a"}, {"/" + long(60), "/" + long(59)}, {"/" + long(59), "/" + long(60)},
		{"/ba", "/a"}, {"/b/a", "/a"}, {"/a/b", "/b"}, {"/x/a/b", "/a/b"}, {"/a/b/c", "/a/c"}, {"/a/b/c", "/b/c"}, {"/a/x/b", "/a/b"}, {"/A", "/a"}, {"/a/B", "/a/b"},
	} {
		within(t, false, c.path, c.dir)
	}
}

// P21.3: of paths of the same names that of more or as many lies in that of fewer.
func TestWithinCounts(t *testing.T) {
	l := list{"a", "bb", "...", long(60), "\xff", "a", "bb", " ", "é", "c", "d", "e", "f", "g", "h", long(59)}
	for i := range len(l) + 1 {
		for k := range len(l) + 1 {
			within(t, k <= i, pathOf(l[:i]...), pathOf(l[:k]...))
			within(t, k <= i, pathOf(times("a", i)...), pathOf(times("a", k)...))
			for at := range k { // one name of the directory is another one
				for _, other := range []string{l[at] + "z", "z" + l[at], "z"} {
					if dir := append(append(append(list{}, l[:at]...), other), l[at+1:k]...); names.Name(other) {
						within(t, false, pathOf(l[:i]...), pathOf(dir...))
					}
				}
			}
		}
	}
}

// P21.3: what is no path lies nowhere, and nothing lies in it; refuses asks it of one beside a path, and of two.
func TestWithinRefuses(t *testing.T) {
	bad := noPaths()
	for _, part := range badParts() {
		bad = append(bad, "/"+part, "/a/"+part, "/"+part+"/a")
	}
	for _, path := range bad {
		for _, other := range bad {
			within(t, false, path, other)
		}
		for _, other := range []string{"/", "/a", "/a/b", strings.Repeat("/a", 15), strings.Repeat("/a", 16), byHand(400)} {
			within(t, false, path, other)
			within(t, false, other, path)
		}
	}
	// What would lie there, if it were a path.
	for _, c := range []struct {
		path, dir string
	}{
		{strings.Repeat("/a", 17), strings.Repeat("/a", 16)}, {strings.Repeat("/a", 17), "/a"}, {byHand(401), "/" + long(60)}, {byHand(401), "/"},
		{"/a/", "/a"}, {"/a/", "/"}, {"/a", "/a/"}, {"/a/b", "/a/"}, {"/a//b", "/a"}, {"//a", "/"}, {"/a", "//"}, {"/a", ""}, {"", ""}, {"a/b", "a"},
		{"/a/..", "/a"}, {"/a/.", "/a"}, {"/a/b", "/a/."}, {"/a/\x00", "/a"}, {"/a/" + long(61), "/a"}, {"/" + long(61) + "/a", "/" + long(61)}, {"/../a", "/.."}, {"/..", "/.."}, {"/..", "/"},
	} {
		within(t, false, c.path, c.dir)
	}
}
