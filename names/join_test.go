package names_test

import (
	"slices"
	"strings"
	"testing"

	"ledgerstone/api"
)

// P21.2: no names make the root.
func TestJoinNone(t *testing.T) {
	joins(t, "/")
	joins(t, "/", list{}...)
	joins(t, "/", make(list, 0, 5)...)
}

// P21.2: each name with a slash ahead, in their order.
func TestJoin(t *testing.T) {
	for _, a := range goodNames() {
		joins(t, "/"+a, a)
		for _, b := range goodNames() {
			joins(t, "/"+a+"/"+b, a, b)
			joins(t, "/x/"+a+"/"+b+"/y", "x", a, b, "y")
		}
	}
	joins(t, "/a/a/a", "a", "a", "a")
	joins(t, "/c/b/a", "c", "b", "a")
}

// P21.2: up to 16 names.
func TestJoinCounts(t *testing.T) {
	for n := 1; n <= 16; n++ {
		joins(t, strings.Repeat("/a", n), times("a", n)...)
		joins(t, strings.Repeat("/"+long(24), n), times(long(24), n)...)
	}
	for n := 17; n <= 300; n++ {
		joinsNot(t, api.ErrPath, times("a", n)...)
	}
	joinsNot(t, api.ErrPath, times("a", 1<<16)...)
	joinsNot(t, api.ErrPath, times("a", 1<<16+1)...)
}

// P21.2: a path of up to 400 bytes, however many names make it.
func TestJoinLengths(t *testing.T) {
	for n := 2; n <= 400; n++ {
		path := byHand(n)
		joins(t, path, strings.Split(path[1:], "/")...)
	}
	for n := 401; n <= 1000; n++ {
		joinsNot(t, api.ErrPath, strings.Split(byHand(n)[1:], "/")...)
	}
	full := times(long(24), 16) // 400 bytes
	joins(t, pathOf(full...), full...)
	for i := range full {
		more := slices.Clone(full)
		more[i] += "n"
		joinsNot(t, api.ErrPath, more...)
		more[(i+1)%16] = long(23)
		joins(t, pathOf(more...), more...)
	}
	joins(t, strings.Repeat("/"+long(60), 6), times(long(60), 6)...)
	joinsNot(t, api.ErrPath, times(long(60), 7)...)
}

// P21.2: an element that is no name, at each place.
func TestJoinRefusesNames(t *testing.T) {
	for _, bad := range badNames() {
		for n := 1; n <= 16; n++ {
			for at := range n {
				l := times("a", n)
				l[at] = bad
				joinsNot(t, api.ErrName, l...)
			}
		}
	}
	joinsNot(t, api.ErrName, badNames()...)
}

// P21.2: what is wrong with a name is told ahead of what is wrong with the path, wherever it stands.
func TestJoinOrder(t *testing.T) {
	for _, bad := range badNames() {
		for _, n := range []int{17, 18, 100} { // too many
			for _, name := range []string{"a", long(60)} {
				for at := range n {
					l := times(name, n)
					l[at] = bad
					joinsNot(t, api.ErrName, l...)
				}
			}
		}
		for at := range 7 { // too many bytes
			l := times(long(60), 7)
			joinsNot(t, api.ErrPath, l...)
			l[at] = bad
			joinsNot(t, api.ErrName, l...)
		}
	}
	l := times("a", 1<<16)
	joinsNot(t, api.ErrPath, l...)
	l[len(l)-1] = ""
	joinsNot(t, api.ErrName, l...)
}
