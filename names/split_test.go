package names_test

import (
	"slices"
	"strings"
	"testing"

	"ledgerstone/api"
	"ledgerstone/names"
)

// P21.1: the root has no names.
func TestSplitRoot(t *testing.T) {
	splits(t, "/")
}

// P21.1: the names of a path, in their order, of each kind of name.
func TestSplit(t *testing.T) {
	for _, a := range goodNames() {
		splits(t, "/"+a, a)
		for _, b := range goodNames() {
			splits(t, "/"+a+"/"+b, a, b)
			splits(t, "/x/"+a+"/"+b+"/y", "x", a, b, "y")
		}
	}
	splits(t, "/a/a/a", "a", "a", "a")
	splits(t, "/c/b/a", "c", "b", "a")
}

// P21.1: a path has 1 to 16 names.
func TestSplitCounts(t *testing.T) {
	for n := 1; n <= 16; n++ {
		splits(t, strings.Repeat("/a", n), times("a", n)...)
		splits(t, strings.Repeat("/"+long(24), n), times(long(24), n)...)
	}
	for n := 17; n <= 300; n++ {
		refuses(t, api.ErrPath, strings.Repeat("/a", n))
	}
}

// P21.1: a path has at most 400 bytes, however many names it has.
func TestSplitLengths(t *testing.T) {
	for n := 2; n <= 400; n++ {
		path := byHand(n)
		splits(t, path, strings.Split(path[1:], "/")...)
	}
	for n := 401; n <= 1000; n++ {
		refuses(t, api.ErrPath, byHand(n))
	}
	full := times(long(24), 16) // 400 bytes
	splits(t, pathOf(full...), full...)
	for i := range full {
		more := slices.Clone(full)
		more[i] += "n"
		refuses(t, api.ErrPath, pathOf(more...))
		more[(i+1)%16] = long(23)
		splits(t, pathOf(more...), more...)
	}
}

// P21.1: texts that are no paths, and the parts of which are no matter.
func TestSplitRefusesPaths(t *testing.T) {
	refuses(t, api.ErrPath, noPaths()...)
}

// P21.1: nothing but a slash may begin a path.
func TestSplitBegins(t *testing.T) {
	for c := range 256 {
		if first := string([]byte{byte(c)}); first != "/" {
			refuses(t, api.ErrPath, first, first+"a", first+"/", first+"/a", first+"/a/b", first+"a/b")
		}
	}
}

// P21.1: a part that is no name, as the first one, in the midst and as the last one.
func TestSplitRefusesNames(t *testing.T) {
	for _, bad := range badParts() {
		refuses(t, api.ErrName, "/"+bad)
		for n := 2; n <= 16; n++ {
			for at := range n {
				l := times("a", n)
				l[at] = bad
				refuses(t, api.ErrName, pathOf(l...))
			}
		}
		for _, other := range badParts() {
			refuses(t, api.ErrName, pathOf(bad, other), pathOf("a", bad, "b", other))
		}
	}
	refuses(t, api.ErrName, "/"+long(61), "/"+long(399), byHand(100)+"/"+long(61), "/.", "/..", "/./a", "/../a", "/a/.", "/a/./b", "/a/../b")
}

// P21.1: what is wrong with the path is told ahead of what is wrong with its names, wherever both stand.
func TestSplitOrder(t *testing.T) {
	for _, bad := range badParts() {
		refuses(t, api.ErrPath,
			bad, bad+"/", bad+"/a", "a/"+bad, // no slash at the beginning
			"/"+bad+"/", "/a/"+bad+"/", "/"+bad+"/a/", // one at the end
			"//"+bad, "/"+bad+"//", "/"+bad+"//a", "/a//"+bad, "//a/"+bad, "/"+bad+"/a//b", "/a//b/"+bad, "/a//b/"+bad+"/", // two side by side
		)
		for at := range 17 {
			l := times("a", 17)
			l[at] = bad
			refuses(t, api.ErrPath, pathOf(l...))
		}
		// 400 and 401 bytes.
		rest := 400 - len("/"+bad)
		refuses(t, api.ErrName, "/"+bad+byHand(rest), byHand(rest)+"/"+bad)
		refuses(t, api.ErrPath, "/"+bad+byHand(rest+1), byHand(rest+1)+"/"+bad)
	}
	refuses(t, api.ErrPath, "/"+long(400), "/"+long(61)+strings.Repeat("/a", 16), strings.Repeat("/a", 16)+"/"+long(61))
}

// R1, R2: texts that are far too long, of all kinds.
func TestSplitFar(t *testing.T) {
	for _, part := range []string{"/", "/a", "a", "\x00", "/\x00", ".", "/.", "/..", "\xff", "/\xff"} {
		refuses(t, api.ErrPath, strings.Repeat(part, 1<<18))
	}
	refuses(t, api.ErrPath, "/"+long(1<<20), "/"+strings.Repeat("\x00", 1<<20))
}

// P21.1: each byte at each place of a path of three names.
func TestSplitBytes(t *testing.T) {
	const path = "/abc/def/ghi"
	for at := range len(path) {
		for c := range 256 {
			b := []byte(path)
			b[at] = byte(c)
			want, err := modelSplit(string(b))
			got, gotErr := names.Split(string(b))
			if !slices.Equal(got, want) || gotErr != err {
				t.Fatalf("Split of %q told %q %v, wanted %q %v", b, got, gotErr, want, err)
			}
			switch {
			case path[at] == '/' && (at == 0 || at == len(path)-1) && c != '/':
				refuses(t, api.ErrPath, string(b))
			case c == 0:
				refuses(t, api.ErrName, string(b))
			}
		}
	}
}
