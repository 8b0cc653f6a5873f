package tree_test

import (
	"fmt"
	"strings"
	"testing"

	"ledgerstone/api"
	"ledgerstone/tree"
)

// P22.3: Unlink lets a name go; a file without links is gone.
func TestUnlink(t *testing.T) {
	x := grown(t, create("/f"), link("/f", "/g"), mkdir("/d"), link("/f", "/d/f"), write("/f", 0, "data"))
	x = becomes(t, x, unlink("/f"), treeOf(4, dirOf(1, "d 3", "g 2"), fileOf(2, 2, "data"), dirOf(3, "f 2")))
	y := becomes(t, x, unlink("/g"), treeOf(4, dirOf(1, "d 3"), fileOf(2, 1, "data"), dirOf(3, "f 2")))
	becomes(t, y, unlink("/d/f"), treeOf(4, dirOf(1, "d 3"), dirOf(3)))
	o := unlink("/d/f")
	o.To, o.At, o.Count, o.Data = "no path", -1, -1, []byte("data")
	y = becomes(t, x, o, treeOf(4, dirOf(1, "d 3", "g 2"), fileOf(2, 1, "data"), dirOf(3)))
	becomes(t, y, unlink("/g"), treeOf(4, dirOf(1, "d 3"), dirOf(3)))
}

// P22.3: Rmdir lets an empty directory go.
func TestRmdir(t *testing.T) {
	x := grown(t, mkdir("/a"), mkdir("/b"), mkdir("/a/a"))
	x = becomes(t, x, rmdir("/b"), treeOf(5, dirOf(1, "a 2"), dirOf(2, "a 4"), dirOf(4)))
	o := rmdir("/a/a")
	o.To, o.At, o.Count, o.Data = "no path", -1, -1, []byte("data")
	x = becomes(t, x, o, treeOf(5, dirOf(1, "a 2"), dirOf(2)))
	becomes(t, x, rmdir("/a"), treeOf(5, dirOf(1)))
}

// P22.3: the errors of Unlink and Rmdir, in their order.
func TestGoneRefused(t *testing.T) {
	x := grown(t, mkdir("/d"), create("/f"), create("/d/g"), mkdir("/d/e"), mkdir("/d/e/a"))
	for path, want := range map[string][2]api.Errno{
		"": {211, 211}, "f": {211, 211}, "/f/": {211, 211}, "/..": {210, 210}, "/d/.": {210, 210},
		"/x": {212, 212}, "/x/y": {212, 212}, "/d/x": {212, 212}, "/f/y": {213, 213}, "/d/g/y": {213, 213}, "/d/g/y/z": {213, 213},
		"/": {214, 2}, "/d": {214, 216}, "/d/e": {214, 216}, "/d/e/a": {214, 0}, "/f": {0, 213}, "/d/g": {0, 213},
	} {
		tells(t, x, unlink(path), api.Result{Err: want[0]})
		tells(t, x, rmdir(path), api.Result{Err: want[1]})
	}
	refuses(t, tree.New(), 2, rmdir("/"))
	refuses(t, tree.New(), 214, unlink("/"))
}

// P22.3: Rename of a file and of a directory to a name that is none yet.
func TestRename(t *testing.T) {
	x := grown(t, mkdir("/d"), create("/f"), mkdir("/d/e"), create("/d/e/g"), write("/f", 0, "data"))
	becomes(t, x, rename("/f", "/a"), treeOf(6, dirOf(1, "a 3", "d 2"), dirOf(2, "e 4"), fileOf(3, 1, "data"), dirOf(4, "g 5"), fileOf(5, 1, "")))
	becomes(t, x, rename("/f", "/z"), treeOf(6, dirOf(1, "d 2", "z 3"), dirOf(2, "e 4"), fileOf(3, 1, "data"), dirOf(4, "g 5"), fileOf(5, 1, "")))
	becomes(t, x, rename("/f", "/d/f"), treeOf(6, dirOf(1, "d 2"), dirOf(2, "e 4", "f 3"), fileOf(3, 1, "data"), dirOf(4, "g 5"), fileOf(5, 1, "")))
	becomes(t, x, rename("/d", "/g"), treeOf(6, dirOf(1, "f 3", "g 2"), dirOf(2, "e 4"), fileOf(3, 1, "data"), dirOf(4, "g 5"), fileOf(5, 1, "")))
	becomes(t, x, rename("/d/e", "/a"), treeOf(6, dirOf(1, "a 4", "d 2", "f 3"), dirOf(2), fileOf(3, 1, "data"), dirOf(4, "g 5"), fileOf(5, 1, "")))
	becomes(t, x, rename("/d/e/g", "/d/a"), treeOf(6, dirOf(1, "d 2", "f 3"), dirOf(2, "a 5", "e 4"), fileOf(3, 1, "data"), dirOf(4), fileOf(5, 1, "")))
	becomes(t, x, rename("/d/e", "/d/dd"), treeOf(6, dirOf(1, "d 2", "f 3"), dirOf(2, "dd 4"), fileOf(3, 1, "data"), dirOf(4, "g 5"), fileOf(5, 1, "")))
	becomes(t, x, rename("/d", "/dd"), treeOf(6, dirOf(1, "dd 2", "f 3"), dirOf(2, "e 4"), fileOf(3, 1, "data"), dirOf(4, "g 5"), fileOf(5, 1, ""))) // its name begins like that of Path, and is not in it
	o := rename("/f", "/a")
	o.At, o.Count, o.Data = -1, -1, []byte("data")
	becomes(t, x, o, treeOf(6, dirOf(1, "a 3", "d 2"), dirOf(2, "e 4"), fileOf(3, 1, "data"), dirOf(4, "g 5"), fileOf(5, 1, "")))
}

// P22.3: what To named loses that name, and is gone with its last one.
func TestRenameOver(t *testing.T) {
	x := grown(t, create("/f"), create("/g"), link("/g", "/h"), mkdir("/d"), mkdir("/e"), create("/d/a"))
	becomes(t, x, rename("/g", "/f"), treeOf(7, dirOf(1, "d 4", "e 5", "f 3", "h 3"), fileOf(3, 2, ""), dirOf(4, "a 6"), dirOf(5), fileOf(6, 1, "")))
	becomes(t, x, rename("/f", "/g"), treeOf(7, dirOf(1, "d 4", "e 5", "g 2", "h 3"), fileOf(2, 1, ""), fileOf(3, 1, ""), dirOf(4, "a 6"), dirOf(5), fileOf(6, 1, "")))
	becomes(t, x, rename("/h", "/d/a"), treeOf(7, dirOf(1, "d 4", "e 5", "f 2", "g 3"), fileOf(2, 1, ""), fileOf(3, 2, ""), dirOf(4, "a 3"), dirOf(5)))
	becomes(t, x, rename("/d/a", "/h"), treeOf(7, dirOf(1, "d 4", "e 5", "f 2", "g 3", "h 6"), fileOf(2, 1, ""), fileOf(3, 1, ""), dirOf(4), dirOf(5), fileOf(6, 1, "")))
	becomes(t, x, rename("/d", "/e"), treeOf(7, dirOf(1, "e 4", "f 2", "g 3", "h 3"), fileOf(2, 1, ""), fileOf(3, 2, ""), dirOf(4, "a 6"), fileOf(6, 1, "")))
	y := grown(t, mkdir("/a"), mkdir("/a/b"), mkdir("/a/c"))
	becomes(t, y, rename("/a/b", "/a/c"), treeOf(5, dirOf(1, "a 2"), dirOf(2, "c 3"), dirOf(3)))
	becomes(t, y, rename("/a/c", "/a/b"), treeOf(5, dirOf(1, "a 2"), dirOf(2, "b 4"), dirOf(4)))
}

// P22.3: nothing is done, if To names the very same node.
func TestRenameToItself(t *testing.T) {
	x := grown(t, create("/f"), link("/f", "/g"), mkdir("/d"), link("/f", "/d/f"), mkdir("/d/e"), create("/d/e/a"))
	for _, pair := range [][2]string{{"/f", "/f"}, {"/f", "/g"}, {"/g", "/f"}, {"/f", "/d/f"}, {"/d/f", "/g"}, {"/d/f", "/d/f"}, {"/d", "/d"}, {"/d/e", "/d/e"}, {"/d/e/a", "/d/e/a"}} {
		becomes(t, x, rename(pair[0], pair[1]), x)
	}
}

// P22.3: the errors of Rename, one by one, and in their order.
func TestRenameRefused(t *testing.T) {
	x := grown(t, mkdir("/d"), mkdir("/d/e"), create("/d/e/a"), create("/f"), mkdir("/g"), mkdir("/h"), create("/h/a"), create("/i"))
	tos := []string{"/", "/d", "/f", "/x", "/x/y", "/f/y", "/d/e"}
	for path, want := range map[string]api.Errno{"/x": 212, "/x/y": 212, "/d/x": 212, "/f/y": 213, "/i/y/z": 213, "/": 2} {
		for _, to := range tos {
			refuses(t, x, want, rename(path, to))
		}
	}
	for _, path := range []string{"/d", "/f", "/d/e", "/d/e/a", "/g"} {
		refuses(t, x, 2, rename(path, "/"))
		refuses(t, x, 212, rename(path, "/x/y"), rename(path, "/d/x/y"), rename(path, "/d/e/x/y"), rename(path, "/x/y/z"))
		refuses(t, x, 213, rename(path, "/i/y"), rename(path, "/d/e/a/y"), rename(path, "/f/y/z"))
		refuses(t, x, 211, rename(path, ""), rename(path, "/a//b"), rename("", path), rename("x", path), rename("/x", "x"))
		refuses(t, x, 210, rename(path, "/."), rename("/..", path), rename("/x", "/.."), rename("/", "/.."))
	}
	refuses(t, x, 217, rename("/d", "/d/e"), rename("/d", "/d/x"), rename("/d", "/d/e/a"), rename("/d", "/d/e/x"), rename("/d/e", "/d/e/a"), rename("/d/e", "/d/e/x"), rename("/g", "/g/x"), rename("/h", "/h/a"))
	refuses(t, x, 213, rename("/d", "/f"), rename("/g", "/f"), rename("/d/e", "/i"), rename("/g", "/d/e/a"), rename("/h", "/f"))
	refuses(t, x, 214, rename("/f", "/g"), rename("/f", "/d"), rename("/f", "/h"), rename("/d/e/a", "/d/e"), rename("/d/e/a", "/d"))
	refuses(t, x, 216, rename("/d", "/h"), rename("/g", "/d"), rename("/g", "/h"), rename("/d/e", "/d"), rename("/d/e", "/h"), rename("/h", "/d/e"))
	refuses(t, tree.New(), 2, rename("/", "/"), rename("/", "/a"))
}

// P22.3: a directory has 128 entries at most, where a name is new in it.
func TestRenameInFullDirectory(t *testing.T) {
	x := wide(1, "n", 126)
	x = tells(t, x, mkdir("/d"), api.Result{})
	x = tells(t, x, create("/d/f"), api.Result{})
	x = tells(t, x, mkdir("/d/e"), api.Result{})
	tells(t, x, rename("/d/f", "/x"), api.Result{}) // 127 entries: one more has room
	tells(t, x, rename("/d/e", "/x"), api.Result{})
	x = tells(t, x, mkdir("/g"), api.Result{})
	tells(t, x, stat("/"), dirStat(128))
	refuses(t, x, 5, rename("/d/f", "/x"), rename("/d/e", "/x"), rename("/d/f", "/0"), rename("/d/f", "/n0000"))
	tells(t, tells(t, x, rename("/n000", "/x"), api.Result{}), stat("/"), dirStat(128)) // it leaves the directory that it comes to
	tells(t, tells(t, x, rename("/d", "/x"), api.Result{}), stat("/"), dirStat(128))
	tells(t, tells(t, x, rename("/d/f", "/n000"), api.Result{}), stat("/"), dirStat(128)) // it takes another one's place
	tells(t, tells(t, x, rename("/d/e", "/g"), api.Result{}), stat("/"), dirStat(128))
	tells(t, tells(t, x, rename("/n000", "/d/g"), api.Result{}), stat("/"), dirStat(127))
	refuses(t, x, 217, rename("/d", "/d/x"))
	refuses(t, x, 214, rename("/d/f", "/g"))
	refuses(t, x, 213, rename("/d/e", "/n000"))
	refuses(t, x, 216, rename("/d/e", "/d"))
	for i := range 126 {
		x = tells(t, x, create(fmt.Sprintf("/d/m%d", i)), api.Result{})
	}
	refuses(t, x, 5, rename("/n000", "/d/x"), rename("/g", "/d/x"), rename("/d/f", "/x"))
	refuses(t, x, 217, rename("/d", "/d/x"), rename("/d", "/d/e/x")) // ahead of the want of room
	becomes(t, x, rename("/d/f", "/d/f"), x)
	tells(t, tells(t, x, rename("/d/f", "/d/x"), api.Result{}), stat("/d"), dirStat(128))
}

// P22.3: a file with 100 links gets other names, too, and links that are lost are counted.
func TestRenameAtMaxLinks(t *testing.T) {
	x := linked("n", 100)
	x = tells(t, x, rename("/n000", "/x"), api.Result{})
	tells(t, x, stat("/x"), fileStat(100, 4))
	x = tells(t, x, create("/f"), api.Result{})
	y := tells(t, x, rename("/f", "/n050"), api.Result{})
	tells(t, y, stat("/x"), fileStat(99, 4))
	tells(t, y, stat("/n050"), fileStat(1, 0))
	y = tells(t, x, rename("/n050", "/f"), api.Result{})
	tells(t, y, stat("/f"), fileStat(100, 4))
}

// P22.3: a directory that is moved takes along what is below it, be it deeper then than a path has names.
func TestRenameDeep(t *testing.T) {
	x, path := tree.New(), ""
	for range 16 {
		path += "/a"
		x = tells(t, x, mkdir(path), api.Result{})
	}
	x = tells(t, x, mkdir("/b"), api.Result{})
	x = tells(t, x, mkdir("/b/c"), api.Result{})
	x = tells(t, x, create("/b/c/f"), api.Result{})
	x = tells(t, x, rename("/b", path), api.Result{}) // onto the deepest one, which is empty
	if l := tree.Paths(x); l[len(l)-1] != path+"/c/f" || strings.Count(path+"/c/f", "/") != 18 {
		t.Fatal(l)
	}
	refuses(t, x, 211, stat(path+"/c"))
	tells(t, x, stat(path), dirStat(1))
	x = tells(t, x, rename(path, "/b"), api.Result{})
	tells(t, x, stat("/b/c/f"), fileStat(1, 0))
}
