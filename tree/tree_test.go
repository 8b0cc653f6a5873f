package tree_test

import (
	"bytes"
	"fmt"
	"slices"
	"strconv"
	"strings"
	"testing"

	"ledgerstone/api"
	"ledgerstone/tree"
)

// What trees and operations are put together of.
func create(path string) api.Op   { return api.Op{Kind: 1, Path: path} }
func mkdir(path string) api.Op    { return api.Op{Kind: 2, Path: path} }
func link(path, to string) api.Op { return api.Op{Kind: 3, Path: path, To: to} }
func unlink(path string) api.Op   { return api.Op{Kind: 4, Path: path} }
func rmdir(path string) api.Op    { return api.Op{Kind: 5, Path: path} }
func rename(path, to string) api.Op {
	return api.Op{Kind: 6, Path: path, To: to}
}
func truncate(path string, count int) api.Op {
	return api.Op{Kind: 7, Path: path, Count: count}
}
func read(path string, at, count int) api.Op {
	return api.Op{Kind: 8, Path: path, At: at, Count: count}
}
func write(path string, at int, data string) api.Op {
	return api.Op{Kind: 9, Path: path, At: at, Data: []byte(data)}
}
func list(path string) api.Op { return api.Op{Kind: 10, Path: path} }
func stat(path string) api.Op { return api.Op{Kind: 11, Path: path} }

func fileStat(links, size int) api.Result {
	return api.Result{Kind: 1, Links: links, Size: size}
}
func dirStat(size int) api.Result       { return api.Result{Kind: 2, Links: 1, Size: size} }
func bytesOf(data string) api.Result    { return api.Result{Data: []byte(data)} }
func counted(n int) api.Result          { return api.Result{Count: n} }
func listed(names ...string) api.Result { return api.Result{Names: names} }
func noughts(n int) string              { return strings.Repeat("\x00", n) }
func fileOf(id, links int, data string) api.Node {
	return api.Node{Id: id, Kind: 1, Links: links, Data: []byte(data)}
}

// dirOf is a directory with entries, each told as its name, a blank and an Id.
func dirOf(id int, entries ...string) api.Node {
	n := api.Node{Id: id, Kind: 2, Links: 1}
	for _, e := range entries {
		name, number, _ := strings.Cut(e, " ")
		to, err := strconv.Atoi(number)
		if err != nil {
			panic(e)
		}
		n.Entries = append(n.Entries, api.Entry{Name: name, Id: to})
	}
	return n
}

// treeOf is these nodes, with a Next.
func treeOf(next int, nodes ...api.Node) api.Tree {
	return api.Tree{Nodes: nodes, Next: next}
}

// equal is whether two trees are element by element the same, Ids too.
func equal(a, b api.Tree) bool {
	return a.Next == b.Next && slices.EqualFunc(a.Nodes, b.Nodes, func(x, y api.Node) bool {
		return x.Id == y.Id && x.Kind == y.Kind && x.Links == y.Links && bytes.Equal(x.Data, y.Data) && slices.Equal(x.Entries, y.Entries)
	})
}

// equalResults is whether two results are the same.
func equalResults(a, b api.Result) bool {
	return a.Err == b.Err && a.Kind == b.Kind && a.Links == b.Links && a.Size == b.Size && a.Count == b.Count && bytes.Equal(a.Data, b.Data) && slices.Equal(a.Names, b.Names)
}

// deepCopy is a tree that shares nothing with t.
func deepCopy(t api.Tree) api.Tree {
	out := api.Tree{Next: t.Next}
	for _, n := range t.Nodes {
		n.Data, n.Entries = append([]byte(nil), n.Data...), append([]api.Entry(nil), n.Entries...)
		out.Nodes = append(out.Nodes, n)
	}
	return out
}

// text is a tree as a short text.
func text(t api.Tree) string {
	var out strings.Builder
	fmt.Fprintf(&out, "next %d", t.Next)
	for _, n := range t.Nodes {
		data := fmt.Sprintf("%q", n.Data)
		if len(n.Data) > 40 {
			data = fmt.Sprintf("%d bytes", len(n.Data))
		}
		fmt.Fprintf(&out, "; %d kind %d links %d %s %v", n.Id, n.Kind, n.Links, data, n.Entries)
	}
	return out.String()
}

// tells is what an operation is to tell; the tree behind it is right, and as it was if there is an error.
func tells(t *testing.T, x api.Tree, o api.Op, want api.Result) api.Tree {
	t.Helper()
	next, r := tree.Apply(x, o)
	if !equalResults(r, want) {
		t.Fatalf("%v of %s told %v, wanted %v", o, text(x), r, want)
	}
	if !tree.Right(next) {
		t.Fatalf("%v of %s told %s, which is not right", o, text(x), text(next))
	}
	if want.Err != 0 && !equal(next, x) {
		t.Fatalf("%v of %s told an error and %s", o, text(x), text(next))
	}
	return next
}

// refuses is an error that an operation is to tell.
func refuses(t *testing.T, x api.Tree, want api.Errno, l ...api.Op) {
	t.Helper()
	for _, o := range l {
		tells(t, x, o, api.Result{Err: want})
	}
}

// becomes is a tree that an operation which tells nothing is to lead to.
func becomes(t *testing.T, x api.Tree, o api.Op, want api.Tree) api.Tree {
	t.Helper()
	next := tells(t, x, o, api.Result{})
	if !equal(next, want) {
		t.Fatalf("%v of %s told %s, wanted %s", o, text(x), text(next), text(want))
	}
	return next
}

// grown is the tree behind these operations, of which none may err.
func grown(t *testing.T, l ...api.Op) api.Tree {
	t.Helper()
	x := tree.New()
	for _, o := range l {
		next, r := tree.Apply(x, o)
		if r.Err != 0 {
			t.Fatal(o, r)
		}
		x = next
	}
	return x
}

// numbered is n names that rise, of these first letters.
func numbered(first string, n int) []string {
	var out []string
	for i := range n {
		out = append(out, fmt.Sprintf("%s%03d", first, i))
	}
	return out
}

// wide is a tree whose root has n directories (or files), and the Id of the first one is 2.
func wide(kind api.Kind, first string, n int) api.Tree {
	x := treeOf(n+2, dirOf(1))
	for i, name := range numbered(first, n) {
		x.Nodes[0].Entries = append(x.Nodes[0].Entries, api.Entry{Name: name, Id: i + 2})
		x.Nodes = append(x.Nodes, api.Node{Id: i + 2, Kind: kind, Links: 1})
	}
	return x
}

// linked is a tree whose root has n names of one file, which has the Id 2.
func linked(first string, n int) api.Tree {
	x := treeOf(3, dirOf(1), fileOf(2, n, "data"))
	for _, name := range numbered(first, n) {
		x.Nodes[0].Entries = append(x.Nodes[0].Entries, api.Entry{Name: name, Id: 2})
	}
	return x
}

// All that the chapter's examples tell.
func TestExamples(t *testing.T) {
	x := tree.New()
	x = tells(t, x, mkdir("/a"), api.Result{})
	x = tells(t, x, create("/a/f"), api.Result{})
	x = tells(t, x, write("/a/f", 2, "xy"), counted(2))
	x = tells(t, x, read("/a/f", 0, 9), bytesOf("\x00\x00xy"))
	x = tells(t, x, link("/a/f", "/g"), api.Result{})
	x = tells(t, x, stat("/g"), fileStat(2, 4))
	refuses(t, x, api.ErrUsed, rmdir("/a"))
	refuses(t, x, api.ErrLoop, rename("/a", "/a/b"))
	x = becomes(t, x, rename("/g", "/a/f"), x)
	x = tells(t, x, unlink("/a/f"), api.Result{})
	x = tells(t, x, rmdir("/a"), api.Result{})
	x = tells(t, x, list("/"), listed("g"))
	refuses(t, x, api.ErrMissing, create("/x/y"))
	refuses(t, x, api.ErrNotDir, create("/g/y"))
	refuses(t, x, api.ErrThere, create("/"))
}

// P22.1: New is the root alone, and Next is 2.
func TestNew(t *testing.T) {
	x := tree.New()
	if !equal(x, treeOf(2, dirOf(1))) || !tree.Right(x) || !slices.Equal(tree.Paths(x), []string{"/"}) || !tree.Same(x, tree.New()) {
		t.Fatal(text(x))
	}
	if id, err := tree.Find(x, "/"); id != 1 || err != 0 {
		t.Fatal(id, err)
	}
	tells(t, x, stat("/"), dirStat(0))
	tells(t, x, list("/"), listed())
}

// What these tests put together is what it is said to be.
func TestHelpers(t *testing.T) {
	for _, x := range []api.Tree{treeOf(2, dirOf(1)), wide(1, "n", 128), wide(2, "n", 128), linked("n", 100), treeOf(4, dirOf(1, "a 2"), dirOf(2, "b 3"), fileOf(3, 1, "x"))} {
		if !modelRight(x) || !equal(x, deepCopy(x)) || !modelRight(deepCopy(x)) {
			t.Fatal(text(x))
		}
	}
	for _, x := range []api.Tree{wide(1, "n", 129), linked("n", 101), {}} {
		if modelRight(x) || !equal(x, deepCopy(x)) {
			t.Fatal(text(x))
		}
	}
	a, b := treeOf(3, dirOf(1, "a 2"), fileOf(2, 1, "x")), treeOf(3, dirOf(1, "a 2"), fileOf(2, 1, "y"))
	if equal(a, b) || equal(a, treeOf(4, a.Nodes...)) || equal(a, treeOf(3, a.Nodes[:1]...)) {
		t.Fatal("equal")
	}
}
