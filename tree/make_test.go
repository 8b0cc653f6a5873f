package tree_test

import (
	"fmt"
	"strings"
	"testing"

	"ledgerstone/api"
	"ledgerstone/tree"
)

// P22.3: Create makes a file without bytes, Mkdir a directory without entries; the Id is Next, which is one more then.
func TestMake(t *testing.T) {
	x := tree.New()
	x = becomes(t, x, create("/b"), treeOf(3, dirOf(1, "b 2"), fileOf(2, 1, "")))
	x = becomes(t, x, mkdir("/a"), treeOf(4, dirOf(1, "a 3", "b 2"), fileOf(2, 1, ""), dirOf(3)))
	x = becomes(t, x, create("/a/b"), treeOf(5, dirOf(1, "a 3", "b 2"), fileOf(2, 1, ""), dirOf(3, "b 4"), fileOf(4, 1, "")))
	x = becomes(t, x, mkdir("/a/a"), treeOf(6, dirOf(1, "a 3", "b 2"), fileOf(2, 1, ""), dirOf(3, "a 5", "b 4"), fileOf(4, 1, ""), dirOf(5)))
	x = becomes(t, x, create("/ab"), treeOf(7, dirOf(1, "a 3", "ab 6", "b 2"), fileOf(2, 1, ""), dirOf(3, "a 5", "b 4"), fileOf(4, 1, ""), dirOf(5), fileOf(6, 1, "")))
	becomes(t, x, create("/c"), treeOf(8, dirOf(1, "a 3", "ab 6", "b 2", "c 7"), fileOf(2, 1, ""), dirOf(3, "a 5", "b 4"), fileOf(4, 1, ""), dirOf(5), fileOf(6, 1, ""), fileOf(7, 1, "")))
}

// P22.3: an Id that was used is not used again, and Next may be above all that are used.
func TestMakeUsesNext(t *testing.T) {
	x := becomes(t, grown(t, create("/a"), create("/b"), unlink("/b"), unlink("/a")), mkdir("/c"), treeOf(5, dirOf(1, "c 4"), dirOf(4)))
	becomes(t, x, rmdir("/c"), treeOf(5, dirOf(1)))
	becomes(t, treeOf(77, dirOf(1)), create("/a"), treeOf(78, dirOf(1, "a 77"), fileOf(77, 1, "")))
}

// P22.3: what else is in the operation counts nothing.
func TestMakeIgnores(t *testing.T) {
	for _, o := range []api.Op{create("/a"), mkdir("/a")} {
		want, _ := tree.Apply(tree.New(), o)
		o.To, o.At, o.Count, o.Data = "no path", -1, -1, []byte("data")
		becomes(t, tree.New(), o, want)
	}
}

// P22.3: the errors of Create and Mkdir.
func TestMakeRefused(t *testing.T) {
	x := grown(t, mkdir("/a"), create("/f"), create("/a/f"))
	for _, kind := range []api.OpKind{1, 2} {
		for path, want := range map[string]api.Errno{
			"/": 215, "/a": 215, "/f": 215, "/a/f": 215,
			"/x/y": 212, "/a/x/y": 212, "/x/y/z": 212,
			"/f/y": 213, "/a/f/y": 213, "/f/y/z": 213,
			"": 211, "a": 211, "/a/": 211, "//": 211, "/a//b": 211, strings.Repeat("/a", 17): 211,
			"/.": 210, "/a/..": 210, "/x/\x00": 210, "/" + strings.Repeat("n", 61): 210,
		} {
			refuses(t, x, want, api.Op{Kind: kind, Path: path})
		}
	}
}

// P22.3: a directory has 128 entries at most; that a name is there counts ahead of it.
func TestMakeInFullDirectory(t *testing.T) {
	for _, kind := range []api.OpKind{1, 2} {
		for _, name := range []string{"a", "n050x", "z"} {
			x := wide(api.Kind(kind), "n", 127)
			x = tells(t, x, api.Op{Kind: kind, Path: "/" + name}, api.Result{})
			tells(t, x, stat("/"), dirStat(128))
			for _, path := range []string{"/0", "/n0500", "/zz"} {
				refuses(t, x, 5, create(path), mkdir(path))
			}
			refuses(t, x, 215, create("/"+name), mkdir("/n000"), create("/n126"), mkdir("/"))
			refuses(t, x, 212, create("/x/y"))
		}
	}
	x := wide(2, "n", 128)
	x = tells(t, x, mkdir("/n007/x"), api.Result{}) // the full one is another
	refuses(t, x, 5, mkdir("/x"))
	for i := range 127 {
		x = tells(t, x, create(fmt.Sprintf("/n007/f%d", i)), api.Result{})
	}
	refuses(t, x, 5, create("/n007/f127"), mkdir("/n007/a"))
	tells(t, x, create("/n008/f"), api.Result{})
}

// P22.3: Next is 2^30 at most; what is wrong with the name counts ahead of it.
func TestMakeAtTheLastId(t *testing.T) {
	for _, kind := range []api.OpKind{1, 2} {
		x := treeOf(1<<30-1, dirOf(1, "a 2"), dirOf(2))
		x = tells(t, x, api.Op{Kind: kind, Path: "/b"}, api.Result{})
		if x.Next != 1<<30 || x.Nodes[2].Id != 1<<30-1 {
			t.Fatal(text(x))
		}
		refuses(t, x, 5, create("/c"), mkdir("/c"), create("/a/c"), mkdir("/a/c"))
		refuses(t, x, 215, create("/a"), mkdir("/b"), create("/"))
		refuses(t, x, 212, create("/x/y"))
		x = tells(t, x, rename("/a", "/c"), api.Result{}) // no Id is asked for
		if kind == 1 {
			x = tells(t, x, link("/b", "/d"), api.Result{})
			x = tells(t, x, unlink("/b"), api.Result{})
			x = tells(t, x, unlink("/d"), api.Result{})
		} else {
			x = tells(t, x, rmdir("/b"), api.Result{})
		}
		refuses(t, x, 5, create("/b"), mkdir("/b"))
		if x.Next != 1<<30 {
			t.Fatal(text(x))
		}
	}
}

// P22.3: a path of 16 names may be made, and one of 400 bytes.
func TestMakeDeep(t *testing.T) {
	x, path := tree.New(), ""
	for n := 1; n <= 16; n++ {
		path += "/a"
		if n < 16 {
			refuses(t, x, 212, mkdir(path+"/a"), create(path+"/a"))
		}
		tells(t, x, create(path), api.Result{})
		x = tells(t, x, mkdir(path), api.Result{})
	}
	refuses(t, x, 211, mkdir(path+"/a"), create(path+"/a"))
	x, path = tree.New(), ""
	for range 7 {
		path += "/" + strings.Repeat("n", 49)
		x = tells(t, x, mkdir(path), api.Result{})
	}
	tells(t, x, create(path+"/"+strings.Repeat("n", 49)), api.Result{})
	refuses(t, x, 211, create(path+"/"+strings.Repeat("n", 50)))
}

// P22.3: Link gives a file one more name.
func TestLink(t *testing.T) {
	x := grown(t, create("/f"), mkdir("/d"), write("/f", 0, "data"))
	x = becomes(t, x, link("/f", "/a"), treeOf(4, dirOf(1, "a 2", "d 3", "f 2"), fileOf(2, 2, "data"), dirOf(3)))
	x = becomes(t, x, link("/a", "/d/f"), treeOf(4, dirOf(1, "a 2", "d 3", "f 2"), fileOf(2, 3, "data"), dirOf(3, "f 2")))
	x = becomes(t, x, link("/d/f", "/d/e"), treeOf(4, dirOf(1, "a 2", "d 3", "f 2"), fileOf(2, 4, "data"), dirOf(3, "e 2", "f 2")))
	for _, path := range []string{"/a", "/f", "/d/e", "/d/f"} {
		tells(t, x, stat(path), fileStat(4, 4))
		tells(t, x, read(path, 0, 9), bytesOf("data"))
		y := tells(t, x, write(path, 4, "!"), counted(1))
		tells(t, y, read("/a", 0, 9), bytesOf("data!"))
	}
	o := link("/f", "/g")
	o.At, o.Count, o.Data = -1, -1, []byte("data")
	becomes(t, x, o, treeOf(4, dirOf(1, "a 2", "d 3", "f 2", "g 2"), fileOf(2, 5, "data"), dirOf(3, "e 2", "f 2")))
}

// P22.3: the errors of Link, one by one, and in their order.
func TestLinkRefused(t *testing.T) {
	x := grown(t, mkdir("/d"), create("/f"), create("/d/g"))
	bad := []string{"/", "/d", "/f", "/x/y", "/f/y", "/y"}
	for path, want := range map[string]api.Errno{"/x": 212, "/x/y": 212, "/d/x": 212, "/f/y": 213, "/d/g/y/z": 213, "/": 214, "/d": 214} {
		for _, to := range bad {
			refuses(t, x, want, link(path, to))
		}
	}
	for to, want := range map[string]api.Errno{"/": 215, "/x/y": 212, "/d/x/y": 212, "/f/y": 213, "/f/y/z": 213, "/d/g/y": 213, "/d": 215, "/f": 215, "/d/g": 215} {
		refuses(t, x, want, link("/f", to), link("/d/g", to))
	}
	for _, path := range []string{"/", "/x", "/f", "/f/y"} {
		refuses(t, x, 211, link(path, ""), link(path, "y"), link(path, "/y/"))
		refuses(t, x, 210, link(path, "/y/."))
		for _, to := range append(bad, "", "/.") {
			refuses(t, x, 211, link("", to), link("f", to))
			refuses(t, x, 210, link("/..", to))
		}
	}
}

// P22.3: a file has 100 links at most, a directory 128 entries; the former counts ahead of the latter, what is wrong with the name ahead of both.
func TestLinkAtItsLimits(t *testing.T) {
	x := linked("n", 98)
	x = tells(t, x, mkdir("/d"), api.Result{})
	x = tells(t, x, link("/n000", "/d/a"), api.Result{})
	x = tells(t, x, link("/d/a", "/d/b"), api.Result{})
	tells(t, x, stat("/n097"), fileStat(100, 4))
	refuses(t, x, 218, link("/n000", "/x"), link("/d/b", "/d/c"))
	refuses(t, x, 215, link("/n000", "/n001"), link("/n000", "/"))
	refuses(t, x, 212, link("/n000", "/x/y"))
	refuses(t, x, 213, link("/n000", "/n001/y"))
	for i := range 29 {
		x = tells(t, x, create(fmt.Sprintf("/f%d", i)), api.Result{})
	}
	tells(t, x, stat("/"), dirStat(128))
	refuses(t, x, 218, link("/n000", "/x"))
	refuses(t, x, 5, link("/f0", "/x"))
	refuses(t, x, 215, link("/f0", "/f1"), link("/f0", "/f0"))
	tells(t, x, link("/f0", "/d/x"), api.Result{})
	x = tells(t, x, unlink("/n000"), api.Result{})
	x = tells(t, x, link("/f0", "/x"), api.Result{})
	refuses(t, x, 5, link("/f0", "/y"), link("/n001", "/y"))
	tells(t, x, link("/n001", "/d/y"), api.Result{})
}
