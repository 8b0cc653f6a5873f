package names_test

import (
	"slices"
	"strings"
	"testing"

	"ledgerstone/api"
	"ledgerstone/names"
)

// P21.3: above the root there is nothing.
func TestUpRoot(t *testing.T) {
	upNot(t, api.ErrPath, "/")
}

// P21.3: a path of one name lies in the root.
func TestUpOfOne(t *testing.T) {
	for _, a := range goodNames() {
		goesUp(t, "/"+a, "/", a)
	}
}

// P21.3: the path without its last name, and that name.
func TestUp(t *testing.T) {
	for _, a := range goodNames() {
		for _, b := range goodNames() {
			goesUp(t, "/"+a+"/"+b, "/"+a, b)
			goesUp(t, "/"+a+"/"+a+"/"+b, "/"+a+"/"+a, b)
		}
	}
	for n := 2; n <= 16; n++ {
		goesUp(t, strings.Repeat("/a", n), strings.Repeat("/a", n-1), "a")
		goesUp(t, strings.Repeat("/a", n-1)+"/b", strings.Repeat("/a", n-1), "b")
		goesUp(t, strings.Repeat("/"+long(24), n), strings.Repeat("/"+long(24), n-1), long(24))
	}
	for n := 2; n <= 400; n++ {
		path := byHand(n)
		at := strings.LastIndex(path, "/")
		goesUp(t, path, path[:max(at, 1)], path[at+1:])
	}
}

// P21.3: from a path of many names one gets to the root, name by name.
func TestUpToTheRoot(t *testing.T) {
	l := list{"a", "bb", "...", long(60), "\xff", "a", "bb", " ", "é", "c", "d", "e", "f", "g", "h", long(59)}
	path := pathOf(l...)
	for i := range slices.Backward(l) {
		goesUp(t, path, pathOf(l[:i]...), l[i])
		path, _, _ = names.Up(path)
	}
	upNot(t, api.ErrPath, path)
}

// P21.3: of what is no path Split's error is told; refuses asks Up, too.
func TestUpRefuses(t *testing.T) {
	refuses(t, api.ErrPath, noPaths()...)
	for _, bad := range badParts() {
		refuses(t, api.ErrName, "/"+bad, "/"+bad+"/a", "/a/"+bad, "/a/"+bad+"/b")
		refuses(t, api.ErrPath, "/"+bad+"/", "//"+bad)
	}
}
