package names_test

import (
	"slices"
	"strings"
	"testing"

	"ledgerstone/api"
	"ledgerstone/names"
)

// list is names, or what is no name.
type list = []string

// long is a text of n bytes: a name, if n is 1 to 60.
func long(n int) string {
	return strings.Repeat("n", n)
}

// times is n times that name.
func times(name string, n int) list {
	return slices.Repeat(list{name}, n)
}

// goodNames are names that may be, the shortest, the longest and odd ones among them.
func goodNames() list {
	return list{"a", "b", "ab", "A", "0", " ", "-", "...", "....", ".a", "a.", "..a", "a..", ". ", " .", ".. ", "a.b", "\\", "\n", "\x01", "\x7f", "\x80", "\xff", "\xc0\xaf", "é", "日本", "a b", "~", "*", long(59), long(60), "." + long(59), strings.Repeat(".", 60), strings.Repeat("é", 30)}
}

// badParts are no names, though each may stand as a part of a path.
func badParts() list {
	return list{".", "..", "\x00", "a\x00", "\x00a", "a\x00b", "\x00\x00", ".\x00", "..\x00", long(59) + "\x00", "\x00" + long(59), long(61), long(60) + "\x00", long(100), strings.Repeat(".", 61), strings.Repeat("é", 30) + "e", strings.Repeat("日", 21)}
}

// badNames are no names, wherever they come from.
func badNames() list {
	return append(badParts(), "", "/", "//", "a/", "/a", "a/b", "a//b", "./a", "../a", long(59)+"/", "/"+long(59), long(300), long(400), long(401), long(5000))
}

// noPaths are texts that break what is asked of a path ahead of its names.
func noPaths() list {
	return list{
		"", "a", "a/", "a/b", ".", "..", "./a", "../a", " /a", "\x00/a", "\x00", "\\a", long(399), long(400), long(401), // no slash at the beginning
		"/a/", "/a/b/", "/" + long(60) + "/", strings.Repeat("/a", 15) + "/", strings.Repeat("/a", 16) + "/", // one at the end
		"//", "///", "//a", "/a//", "/a//b", "/a/b//c", "//a/b", "/a/b//", "/a///b", strings.Repeat("/a", 7) + "/" + strings.Repeat("/a", 8), strings.Repeat("/", 16), strings.Repeat("/", 400), // two side by side
		strings.Repeat("/a", 17), strings.Repeat("/a", 18), strings.Repeat("/a", 100), strings.Repeat("/a", 200), "/" + long(50) + strings.Repeat("/a", 16), // too many parts
		byHand(400 + 1), "/" + long(400), byHand(402), byHand(1000), "/" + long(5000), strings.Repeat("/a", 5000), // too many bytes
	}
}

// byHand is a text of n bytes that would be a path, but perhaps for how long it is: names of 60 bytes each, the last one shorter.
func byHand(n int) string {
	var out strings.Builder
	for out.Len() < n {
		left := n - out.Len() - 1
		part := min(left, 60)
		if left-part == 1 { // a slash alone would be left
			part--
		}
		out.WriteString("/" + long(part))
	}
	return out.String()
}

// pathOf is the text of these parts, be they names or not.
func pathOf(l ...string) string {
	if len(l) == 0 {
		return "/"
	}
	out := ""
	for _, part := range l {
		out += "/" + part
	}
	return out
}

// isName is what Name is to tell.
func isName(t *testing.T, want bool, l ...string) {
	t.Helper()
	for _, s := range l {
		if got := names.Name(s); got != want {
			t.Fatalf("Name of %q told %v", s, got)
		}
	}
}

// splits is names that Split is to tell.
func splits(t *testing.T, path string, want ...string) {
	t.Helper()
	if got, err := names.Split(path); !slices.Equal(got, want) || err != api.OK {
		t.Fatalf("Split of %q told %q %v, wanted %q", path, got, err, want)
	}
}

// joins is a path that Join is to tell.
func joins(t *testing.T, want string, l ...string) {
	t.Helper()
	if got, err := names.Join(l); got != want || err != api.OK {
		t.Fatalf("Join of %q told %q %v, wanted %q", l, got, err, want)
	}
}

// joinsNot is an error that Join is to tell, with nothing beside it.
func joinsNot(t *testing.T, want api.Errno, l ...string) {
	t.Helper()
	if got, err := names.Join(l); got != "" || err != want {
		t.Fatalf("Join of %q told %q %v, wanted %v", l, got, err, want)
	}
}

// goesUp is what Up is to tell.
func goesUp(t *testing.T, path, up, last string) {
	t.Helper()
	if gotUp, gotLast, err := names.Up(path); gotUp != up || gotLast != last || err != api.OK {
		t.Fatalf("Up of %q told %q %q %v, wanted %q %q", path, gotUp, gotLast, err, up, last)
	}
}

// upNot is an error that Up is to tell, with nothing beside it.
func upNot(t *testing.T, want api.Errno, path string) {
	t.Helper()
	if up, last, err := names.Up(path); up != "" || last != "" || err != want {
		t.Fatalf("Up of %q told %q %q %v, wanted %v", path, up, last, err, want)
	}
}

// refuses is texts that are no paths: Split tells that error with nothing beside it, Up does so too, and nothing lies within them, nor do they.
func refuses(t *testing.T, want api.Errno, l ...string) {
	t.Helper()
	for _, path := range l {
		if got, err := names.Split(path); len(got) != 0 || err != want {
			t.Fatalf("Split of %q told %q %v, wanted %v", path, got, err, want)
		}
		upNot(t, want, path)
		within(t, false, path, path)
		for _, other := range []string{"/", "/a", "/a/b", "", "a", "//", "/a\x00"} {
			within(t, false, path, other)
			within(t, false, other, path)
		}
	}
}

// within is what Within is to tell.
func within(t *testing.T, want bool, path, dir string) {
	t.Helper()
	if got := names.Within(path, dir); got != want {
		t.Fatalf("Within of %q in %q told %v", path, dir, got)
	}
}

// What the lists of these tests are said to be.
func TestLists(t *testing.T) {
	for _, n := range []int{2, 61, 62, 63, 122, 123, 124, 399, 400, 401, 402, 1000} {
		if path := byHand(n); len(path) != n || strings.Contains(path, "//") || strings.HasSuffix(path, "/") || strings.Contains(path, long(61)) {
			t.Fatal(n, path)
		}
	}
	for _, part := range badParts() {
		if part == "" || strings.Contains(part, "/") || len(part) > 100 {
			t.Fatal(part)
		}
	}
}

// All numbers of the chapter's examples.
func TestExamples(t *testing.T) {
	splits(t, "/a/b", "a", "b")
	splits(t, "/")
	refuses(t, api.ErrPath, "a", "/a/", "//", "")
	refuses(t, api.ErrName, "/a/..")
	joins(t, "/a/b", "a", "b")
	goesUp(t, "/a/b", "/a", "b")
	goesUp(t, "/a", "/", "a")
	within(t, true, "/a/b", "/a")
	within(t, true, "/a", "/")
	within(t, true, "/a", "/a")
	within(t, false, "/ab", "/a")
}

// P21.1: a name has 1 to 60 bytes.
func TestNameLengths(t *testing.T) {
	isName(t, false, "")
	for n := 1; n <= 60; n++ {
		isName(t, true, long(n))
	}
	for n := 61; n <= 700; n++ {
		isName(t, false, long(n))
	}
	isName(t, false, long(1<<16), long(1<<16+1), long(1<<20+30))
	// It is bytes that are counted, not what they are read as.
	isName(t, true, strings.Repeat("é", 30), strings.Repeat("日", 20), strings.Repeat("\xff", 60))
	isName(t, false, strings.Repeat("é", 31), strings.Repeat("日", 20)+"a", strings.Repeat("日", 60), strings.Repeat("\xff", 61))
}

// P21.1: neither one nor two dots are a name; more of them, or dots beside others, are.
func TestNameDots(t *testing.T) {
	isName(t, false, ".", "..")
	for n := 3; n <= 60; n++ {
		isName(t, true, strings.Repeat(".", n))
	}
	isName(t, false, strings.Repeat(".", 61))
	for c := range 256 {
		other, want := string([]byte{byte(c)}), c != 0 && c != '/'
		if c != '.' {
			isName(t, want, "."+other, other+".", ".."+other, "."+other+".", other+"..", other+"."+other)
		}
	}
}

// P21.1: each byte but 0 and 47 may stand alone (but for the dot), and at each place of a longer name.
func TestNameBytes(t *testing.T) {
	for c := range 256 {
		alone, want := string([]byte{byte(c)}), c != 0 && c != '/'
		isName(t, want && c != '.', alone)
		for n := 2; n <= 60; n++ {
			for at := range n {
				name := []byte(long(n))
				name[at] = byte(c)
				isName(t, want, string(name))
			}
		}
		isName(t, want, strings.Repeat(alone, 60), strings.Repeat(alone, 3))
		isName(t, false, strings.Repeat(alone, 61))
	}
}

// P21.1: names and no names of all kinds.
func TestName(t *testing.T) {
	isName(t, true, goodNames()...)
	isName(t, false, badNames()...)
}
