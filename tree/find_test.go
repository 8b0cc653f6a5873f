package tree_test

import (
	"slices"
	"strings"
	"testing"

	"ledgerstone/api"
	"ledgerstone/tree"
)

// finds is what Find is to tell; Stat tells the same error.
func finds(t *testing.T, x api.Tree, path string, want int, wantErr api.Errno) {
	t.Helper()
	if id, err := tree.Find(x, path); id != want || err != wantErr {
		t.Fatalf("Find of %q in %s told %d %v, wanted %d %v", path, text(x), id, err, want, wantErr)
	}
	if next, r := tree.Apply(x, stat(path)); r.Err != wantErr || wantErr == 0 && r.Kind != nodeOf(x, want).Kind || !equal(next, x) {
		t.Fatalf("Stat of %q in %s told %v, wanted %v", path, text(x), r, wantErr)
	}
}

// nodeOf is the node of an Id.
func nodeOf(x api.Tree, id int) api.Node {
	return x.Nodes[slices.IndexFunc(x.Nodes, func(n api.Node) bool { return n.Id == id })]
}

// P22.2: what is found, and the errors.
func TestFind(t *testing.T) {
	x := some()
	for path, want := range map[string]int{"/": 1, "/a": 3, "/a/c": 7, "/a/c/f": 9, "/b": 4, "/g": 9, "/h": 11} {
		finds(t, x, path, want, 0)
	}
	for path, want := range map[string]api.Errno{
		"/c": 212, "/A": 212, "/aa": 212, "/a/f": 212, "/a/a": 212, "/a/c/g": 212, "/x/y": 212, "/a/x/y": 212, "/f": 212, "/0": 212, "/zz": 212, "/i": 212,
		"/b/x": 213, "/g/x": 213, "/a/c/f/x": 213, "/b/x/y": 213, "/b/b": 213, "/h/h/h": 213,
		"": 211, "a": 211, "/a/": 211, "//": 211, "//a": 211, "/a//c": 211, "/b/": 211, strings.Repeat("/a", 17): 211, "/" + strings.Repeat("n", 400): 211,
		"/.": 210, "/a/.": 210, "/a/..": 210, "/x/..": 210, "/b/.": 210, "/\x00": 210, "/" + strings.Repeat("n", 61): 210,
	} {
		finds(t, x, path, 0, want)
	}
}

// P22.2: a tree that is not right counts ahead of all that is wrong with the path.
func TestFindInWrong(t *testing.T) {
	x := some()
	x.Nodes[4].Links = 1
	for _, path := range []string{"/", "/a", "/x", "/b/x", "", "a", "/..", "/a/"} {
		if id, err := tree.Find(x, path); id != 0 || err != 2 {
			t.Fatal(path, id, err)
		}
	}
}

// P22.2: each of many names is found, and none beside them.
func TestFindAmongMany(t *testing.T) {
	for n := range 129 {
		x := wide(1, "n", n)
		for i, name := range numbered("n", 128) {
			if i < n {
				finds(t, x, "/"+name, i+2, 0)
			} else {
				finds(t, x, "/"+name, 0, 212)
			}
		}
	}
}

// P22.2: a path of 16 names is found, in a tree that is deeper.
func TestFindDeep(t *testing.T) {
	x := chain(20, func(int) string { return "n" })
	for n := 1; n <= 16; n++ {
		finds(t, x, strings.Repeat("/n", n), n+1, 0)
	}
	finds(t, x, strings.Repeat("/n", 17), 0, 211)
}

// P22.3: List tells the names, rising.
func TestList(t *testing.T) {
	x := some()
	tells(t, x, list("/"), listed("a", "b", "g", "h"))
	tells(t, x, list("/a"), listed("c"))
	tells(t, x, list("/a/c"), listed("f"))
	tells(t, holding(""), list("/d"), listed())
	tells(t, wide(1, "n", 128), list("/"), listed(numbered("n", 128)...))
	for path, want := range map[string]api.Errno{"/b": 213, "/g": 213, "/a/c/f": 213, "/b/x": 213, "/x": 212, "/x/y": 212, "": 211, "a": 211, "/.": 210} {
		refuses(t, x, want, list(path))
	}
	y := grown(t, create("/b"), create("/a!"), create("/a"), create("/\xff"), mkdir("/A"), create("/aa"))
	tells(t, y, list("/"), listed("A", "a", "a!", "aa", "b", "\xff"))
	o := list("/")
	o.To, o.At, o.Count, o.Data = "no path", 1, 1, []byte("data")
	tells(t, y, o, listed("A", "a", "a!", "aa", "b", "\xff"))
}

// P22.3: Stat tells the kind, the links and the size, and nothing else.
func TestStat(t *testing.T) {
	x := some()
	tells(t, x, stat("/"), dirStat(4))
	tells(t, x, stat("/a"), dirStat(1))
	tells(t, x, stat("/b"), fileStat(1, 4))
	tells(t, x, stat("/g"), fileStat(2, 4))
	tells(t, x, stat("/a/c/f"), fileStat(2, 4))
	tells(t, x, stat("/h"), fileStat(1, 0))
	tells(t, wide(2, "n", 128), stat("/"), dirStat(128))
	tells(t, linked("n", 100), stat("/n099"), fileStat(100, 4))
	tells(t, holding(noughts(131072)), stat("/f"), fileStat(1, 131072))
	o := stat("/b")
	o.To, o.At, o.Count, o.Data = "no path", 1, 1, []byte("data")
	tells(t, x, o, fileStat(1, 4))
}

// P22.3: of a wrong tree, a wrong kind, a wrong Path and a wrong To the one named first counts.
func TestApplyOrder(t *testing.T) {
	wrong := some()
	wrong.Next = 11
	paths := map[string]api.Errno{"": 211, "a": 211, "/a/": 211, "/..": 210, "/a/\x00": 210, "/a": 0, "/x": 0, "/": 0}
	for kind := range 256 {
		for path, pathErr := range paths {
			for to, toErr := range paths {
				o := api.Op{Kind: api.OpKind(kind), Path: path, To: to}
				refusesAll(t, wrong, 2, o)
				refusesAll(t, api.Tree{}, 2, o)
				switch asksTo := kind == 3 || kind == 6; {
				case kind == 0 || kind > 11:
					refuses(t, some(), 2, o)
				case pathErr != 0:
					refuses(t, some(), pathErr, o)
				case asksTo && toErr != 0:
					refuses(t, some(), toErr, o)
				default:
					likeModel(t, some(), o)
				}
			}
		}
	}
}

// refusesAll is an error of an operation on a tree that need not be right: that is told as it was.
func refusesAll(t *testing.T, x api.Tree, want api.Errno, o api.Op) {
	t.Helper()
	if next, r := tree.Apply(x, o); !equalResults(r, api.Result{Err: want}) || !equal(next, x) {
		t.Fatalf("%v of %s told %v %s", o, text(x), r, text(next))
	}
}
