package names_test

import (
	"math/rand"
	"slices"
	"strings"
	"testing"

	"ledgerstone/api"
	"ledgerstone/names"
)

// modelName is the chapter's words on a name, byte by byte.
func modelName(s string) bool {
	dots := 0
	for _, c := range []byte(s) {
		switch c {
		case 0, 47:
			return false
		case 46:
			dots++
		}
	}
	return 1 <= len(s) && len(s) <= 60 && (dots < len(s) || dots > 2)
}

// modelSplit is the chapter's words on a path, byte by byte.
func modelSplit(path string) (list, api.Errno) {
	if path == "/" {
		return nil, api.OK
	}
	if len(path) < 1 || len(path) > 400 || path[0] != 47 || path[len(path)-1] == 47 {
		return nil, api.ErrPath
	}
	var parts list
	for i, c := range []byte(path) {
		switch {
		case c != 47:
			parts[len(parts)-1] += string([]byte{c})
		case path[i+1] == 47: // it does not end with one
			return nil, api.ErrPath
		default:
			parts = append(parts, "")
		}
	}
	if len(parts) > 16 {
		return nil, api.ErrPath
	}
	for _, part := range parts {
		if !modelName(part) {
			return nil, api.ErrName
		}
	}
	return parts, api.OK
}

// modelJoin is the chapter's words on names that make a path.
func modelJoin(l list) (string, api.Errno) {
	for _, s := range l {
		if !modelName(s) {
			return "", api.ErrName
		}
	}
	if path := pathOf(l...); len(l) <= 16 && len(path) <= 400 {
		return path, api.OK
	}
	return "", api.ErrPath
}

// modelUp goes back from the end of a path to its last slash.
func modelUp(path string) (string, string, api.Errno) {
	if _, err := modelSplit(path); err != api.OK {
		return "", "", err
	}
	if path == "/" {
		return "", "", api.ErrPath
	}
	at := len(path) - 1
	for path[at] != 47 {
		at--
	}
	if at == 0 {
		return "/", path[1:], api.OK
	}
	return path[:at], path[at+1:], api.OK
}

// modelWithin holds two paths against each other with a slash behind each name.
func modelWithin(path, dir string) bool {
	_, err := modelSplit(path)
	_, dirErr := modelSplit(dir)
	return err == api.OK && dirErr == api.OK && (dir == "/" || strings.HasPrefix(path+"/", dir+"/"))
}

// asModel asks all of path that the model tells.
func asModel(t *testing.T, path string) {
	t.Helper()
	isName(t, modelName(path), path)
	want, err := modelSplit(path)
	if err != api.OK {
		refuses(t, err, path)
		return
	}
	splits(t, path, want...)
	up, last, err := modelUp(path)
	if err != api.OK {
		upNot(t, err, path)
		return
	}
	goesUp(t, path, up, last)
}

// joinsAsModel asks Join what the model tells of l.
func joinsAsModel(t *testing.T, l list) {
	t.Helper()
	want, err := modelJoin(l)
	if err != api.OK {
		joinsNot(t, err, l...)
		return
	}
	joins(t, want, l...)
}

// texts are all texts of up to n bytes, of these alone.
func texts(kinds string, n int) list {
	out, last := list{""}, list{""}
	for range n {
		var next list
		for _, s := range last {
			for i := range len(kinds) {
				next = append(next, s+kinds[i:i+1])
			}
		}
		out, last = append(out, next...), next
	}
	return out
}

// P21.1, P21.3: all short texts of a few kinds of bytes.
func TestShortTexts(t *testing.T) {
	t.Parallel()
	for _, path := range append(texts("/.a\x00", 7), texts("/.", 11)...) {
		asModel(t, path)
	}
	for _, path := range texts("/./", 5) {
		asModel(t, "/a"+path)
		asModel(t, path+"a")
	}
}

// P21.3: all pairs of short texts of a few kinds of bytes.
func TestShortPairs(t *testing.T) {
	t.Parallel()
	trues := 0
	for _, l := range []list{texts("/ab", 6), texts("/.a", 5), texts("/a", 9), texts("/.a\x00", 4)} {
		for _, path := range l {
			for _, dir := range l {
				want := modelWithin(path, dir)
				if names.Within(path, dir) != want {
					t.Fatalf("Within of %q in %q told %v", path, dir, !want)
				}
				if want {
					trues++
				}
			}
		}
	}
	if trues < 500 {
		t.Fatal("the test itself", trues)
	}
}

// P21.2: all short lists of a few short texts.
func TestShortLists(t *testing.T) {
	t.Parallel()
	for _, kinds := range []list{texts("/.a\x00", 2), texts(".a", 3), {"", "a", ".", "..", "...", "b"}, {long(59), long(60), long(61), "a"}} {
		lists := []list{{}}
		for len(lists) > 0 && len(lists[0]) < 5 && len(lists) < 9000 {
			var next []list
			for _, l := range lists {
				joinsAsModel(t, l)
				for _, s := range kinds {
					next = append(next, append(slices.Clone(l), s))
				}
			}
			lists = next
		}
		for _, l := range lists {
			joinsAsModel(t, l)
		}
	}
}

// anyName is a name by chance, or something like one.
func anyName(r *rand.Rand) string {
	lengths := []int{1, 1, 1, 2, 3, 20, 22, 23, 24, 25, 26, 58, 59, 60, 60}
	b := make([]byte, lengths[r.Intn(len(lengths))])
	kinds := []byte("ab. \xff\xc3\xa9\n")
	all := r.Intn(2) == 0
	for i := range b {
		b[i] = kinds[r.Intn(len(kinds))]
		if all {
			b[i] = byte(1 + r.Intn(255))
		}
		if b[i] == '/' {
			b[i] = 'c'
		}
	}
	return string(b)
}

// anyList is up to 17 names by chance; now and then one of them is none.
func anyList(r *rand.Rand) list {
	var out list
	for range r.Intn(18) {
		out = append(out, anyName(r))
	}
	if r.Intn(3) == 0 && len(out) > 0 { // as long as may be, or a byte more
		for len(pathOf(out...)) > 401 {
			out = out[1:]
		}
		for i := 0; i < len(out) && len(pathOf(out...)) < 400; i++ {
			out[i] += long(min(60-len(out[i]), 400+r.Intn(2)-len(pathOf(out...))))
		}
	}
	if r.Intn(4) == 0 && len(out) > 0 {
		bad := badNames()
		out[r.Intn(len(out))] = bad[r.Intn(len(bad))]
	}
	return out
}

// anyPath is a path by chance, or something like one.
func anyPath(r *rand.Rand) string {
	b := []byte(pathOf(anyList(r)...))
	for range r.Intn(3) {
		at, c := r.Intn(len(b)), []byte{'/', '/', '.', 0, 'a'}[r.Intn(5)]
		switch r.Intn(3) {
		case 0:
			b = slices.Insert(b, at, c)
		case 1:
			b[at] = c
		default:
			b = slices.Delete(b, at, at+1)
			if len(b) == 0 {
				return ""
			}
		}
	}
	return string(b)
}

// P21.1 to P21.3: lists, paths and what is like them, by chance.
func TestByChance(t *testing.T) {
	t.Parallel()
	told := map[api.Errno]int{}
	joined := map[api.Errno]int{}
	for seed := range int64(20000) {
		r := rand.New(rand.NewSource(seed))
		l := anyList(r)
		joinsAsModel(t, l)
		_, err := modelJoin(l)
		joined[err]++
		path := anyPath(r)
		asModel(t, path)
		_, err = modelSplit(path)
		told[err]++
		for _, dir := range []string{anyPath(r), path[:r.Intn(len(path)+1)], path + "/", path + "/a", path + "a", "/a" + path} {
			within(t, modelWithin(path, dir), path, dir)
			within(t, modelWithin(dir, path), dir, path)
		}
	}
	for _, err := range []api.Errno{api.OK, api.ErrPath, api.ErrName} {
		if told[err] < 2000 || joined[err] < 2000 {
			t.Fatal("the test itself", told, joined)
		}
	}
}
