package tree_test

import (
	"fmt"
	"math/rand"
	"slices"
	"strings"
	"testing"
	"unsafe"

	"ledgerstone/api"
	"ledgerstone/tree"
)

// roomy is a tree whose lists have spare room, with things of their own in it.
func roomy(x api.Tree) api.Tree {
	x = deepCopy(x)
	for i := range x.Nodes {
		n := &x.Nodes[i]
		n.Data = append(n.Data, "spare"...)[:len(n.Data)]
		n.Entries = append(n.Entries, api.Entry{Name: "spare", Id: 5}, api.Entry{Name: "room", Id: 6})[:len(n.Entries)]
	}
	x.Nodes = append(x.Nodes, fileOf(90, 1, "spare"), dirOf(91))[:len(x.Nodes)]
	return x
}

// wholly is all that a tree's lists hold, their spare room too.
func wholly(x api.Tree) string {
	out := fmt.Sprint(x.Next, len(x.Nodes))
	for _, n := range x.Nodes[:cap(x.Nodes)] {
		out += fmt.Sprint(n.Id, n.Kind, n.Links, len(n.Data), len(n.Entries), n.Data[:cap(n.Data)], n.Entries[:cap(n.Entries)])
	}
	return out
}

// overwrite writes over all that a tree's lists hold, their spare room too.
func overwrite(x api.Tree) {
	for i := range x.Nodes[:cap(x.Nodes)] {
		n := &x.Nodes[:cap(x.Nodes)][i]
		overwriteBytes(n.Data)
		for k := range n.Entries[:cap(n.Entries)] {
			n.Entries[:cap(n.Entries)][k] = api.Entry{Name: "over", Id: -7}
		}
		*n = api.Node{Id: -7, Kind: 77}
	}
}

// overwriteBytes does so with bytes.
func overwriteBytes(b []byte) {
	for i := range b[:cap(b)] {
		b[:cap(b)][i] = '!'
	}
}

// region is memory from a first byte on.
type region struct {
	first, size uintptr
	what        string
}

// regionOf is the memory of a list, its spare room too.
func regionOf[T any](l []T, what string) region {
	var one T
	return region{uintptr(unsafe.Pointer(unsafe.SliceData(l))), uintptr(cap(l)) * unsafe.Sizeof(one), what}
}

// textRegion is the memory of a text.
func textRegion(s, what string) region {
	return region{uintptr(unsafe.Pointer(unsafe.StringData(s))), uintptr(len(s)), what}
}

// lists is the memory of all lists of a tree.
func lists(x api.Tree) []region {
	out := []region{regionOf(x.Nodes, "nodes")}
	for _, n := range x.Nodes {
		out = append(out, regionOf(n.Data, "data"), regionOf(n.Entries, "entries"))
	}
	return out
}

// texts is the memory of all names of a tree.
func texts(x api.Tree) []region {
	var out []region
	for _, n := range x.Nodes {
		for _, e := range n.Entries {
			out = append(out, textRegion(e.Name, "name "+e.Name))
		}
	}
	return out
}

// toldTexts is the memory of all names that Apply told.
func toldTexts(next api.Tree, r api.Result) []region {
	out := texts(next)
	for _, name := range r.Names {
		out = append(out, textRegion(name, "told "+name))
	}
	return out
}

// apart is that no two of these share memory.
func apart(t *testing.T, o api.Op, all ...region) {
	t.Helper()
	all = slices.DeleteFunc(all, func(r region) bool { return r.size == 0 })
	slices.SortFunc(all, func(a, b region) int {
		if a.first < b.first {
			return -1
		}
		return 1
	})
	for i := 1; i < len(all); i++ {
		if all[i-1].first+all[i-1].size > all[i].first {
			t.Fatalf("%v: %s and %s share memory", o, all[i-1].what, all[i].what)
		}
	}
}

// shared is the trees and operations that these tests go through.
func shared(yield func(api.Tree, api.Op)) {
	wrong := some()
	wrong.Next = 3
	long := strings.Repeat("longer than a file is", 9)
	for _, x := range []api.Tree{tree.New(), some(), wrong, wide(2, "n", 128), linked("n", 100)} {
		for _, p := range []string{"/", "/a", "/b", "/a/c/f", "/x", "/n001", "/n000/x", "", "/.."} {
			for _, o := range []api.Op{create(p), mkdir(p), unlink(p), rmdir(p), list(p), stat(p), truncate(p, 2), truncate(p, 9), truncate(p, 0), read(p, 0, 4), read(p, 1, 2), read(p, 2, 0), write(p, 0, long), write(p, 1, "x"), write(p, 9, "x"), write(p, 0, ""), {Path: p}} {
				yield(x, o)
			}
			for _, to := range []string{"/y", "/b", "/a", "/a/y", "/g", "/n001", "/n002", "/", "/h", "/a/c"} {
				yield(x, link(p, to))
				yield(x, rename(p, to))
			}
		}
	}
}

// R3: what is handed in is not changed, its spare room neither.
func TestHandedInStays(t *testing.T) {
	t.Parallel()
	shared(func(x api.Tree, o api.Op) {
		x = roomy(x)
		whole := append(slices.Clone(o.Data), "spare"...)
		o.Data = whole[:len(o.Data)]
		before, beforeData := wholly(x), string(whole[:cap(whole)])
		_, _ = tree.Apply(x, o)
		_, _ = tree.Find(x, o.Path)
		_, _ = tree.Right(x), tree.Paths(x)
		_ = tree.Same(x, x)
		if wholly(x) != before || string(whole[:cap(whole)]) != beforeData {
			t.Fatalf("%v changed %s", o, text(x))
		}
	})
}

// R3: what is told shares no memory with what was handed in, and no two lists of it do.
func TestToldIsNew(t *testing.T) {
	t.Parallel()
	shared(func(x api.Tree, o api.Op) {
		x = roomy(x)
		o.Path, o.To = strings.Clone(o.Path), strings.Clone(o.To)
		next, r := tree.Apply(x, o)
		all := append(lists(x), lists(next)...)
		apart(t, o, append(all, regionOf(o.Data, "Data"), regionOf(r.Data, "bytes"), regionOf(r.Names, "names"))...)
		told := toldTexts(next, r)
		for _, p := range tree.Paths(x) {
			if p != "/" {
				told = append(told, textRegion(p, "path "+p))
			}
		}
		for _, region := range told {
			apart(t, o, region, textRegion(o.Path, "Path"))
			apart(t, o, region, textRegion(o.To, "To"))
		}
	})
}

// R3: names that are told are not those that were handed in, and each is told on its own.
func TestToldNamesAreNew(t *testing.T) {
	t.Parallel()
	shared(func(x api.Tree, o api.Op) {
		next, r := tree.Apply(x, o)
		in := map[uintptr]bool{}
		for _, region := range texts(x) {
			in[region.first] = true
		}
		for _, region := range toldTexts(next, r) {
			if in[region.first] {
				t.Fatalf("%v: %s is not new", o, region.what)
			}
			in[region.first] = true
		}
	})
}

// R3: what was handed in and what was told may be written over: nothing of it is kept.
func TestToldMayBeWrittenOver(t *testing.T) {
	t.Parallel()
	shared(func(x api.Tree, o api.Op) {
		x = roomy(x)
		whole := deepCopy(x)
		next, r := tree.Apply(x, o)
		want, wantR := modelApply(whole, o)
		overwriteBytes(r.Data)
		for i := range r.Names[:cap(r.Names)] {
			r.Names[:cap(r.Names)][i] = "over"
		}
		if !equal(next, want) {
			t.Fatalf("%v of %s led to %s", o, text(whole), text(next))
		}
		again, r := tree.Apply(x, o)
		overwrite(x)
		if !equal(next, want) || !equal(again, want) || !equalResults(r, wantR) {
			t.Fatalf("%v of %s led to %s", o, text(whole), text(next))
		}
		overwrite(next)
		if !equal(again, want) {
			t.Fatalf("%v of %s led to %s", o, text(whole), text(again))
		}
	})
	x := tree.New()
	overwrite(x)
	if !equal(tree.New(), treeOf(2, dirOf(1))) {
		t.Fatal("New keeps what it told")
	}
	l := tree.Paths(some())
	for i := range l[:cap(l)] {
		l[:cap(l)][i] = "over"
	}
	pathsAre(t, some(), "/", "/a", "/a/c", "/a/c/f", "/b", "/g", "/h")
}

// R3: the Data of a Write may be written over behind it.
func TestDataIsNotKept(t *testing.T) {
	for at := range 6 {
		o := write("/f", at, "bytes")
		next, _ := tree.Apply(holding("data"), o)
		want, _ := modelApply(holding("data"), o)
		overwriteBytes(o.Data)
		if !equal(next, want) {
			t.Fatal(text(next))
		}
	}
}

// R4: a call tells the same again, whatever was called between.
func TestNothingIsKept(t *testing.T) {
	t.Parallel()
	r := rand.New(rand.NewSource(1))
	shared(func(x api.Tree, o api.Op) {
		next, told := tree.Apply(x, o)
		_, _ = tree.Apply(some(), anyOp(r, some()))
		_, _ = tree.Find(some(), "/a/c")
		again, toldAgain := tree.Apply(x, o)
		if !equal(next, again) || !equalResults(told, toldAgain) {
			t.Fatalf("%v of %s told %v, then %v", o, text(x), told, toldAgain)
		}
	})
}

// R6: an empty list and none are the same.
func TestEmptyAndNone(t *testing.T) {
	for _, o := range everyOp([]string{"/", "/f", "/d", "/d/x", "/y"}) {
		x, y := holding(""), holding("")
		for i := range x.Nodes {
			n, m := &x.Nodes[i], &y.Nodes[i]
			n.Data = append(n.Data, 'x')[:len(n.Data)]
			if len(m.Data) == 0 {
				m.Data = nil
			}
			if len(n.Entries) == 0 {
				n.Entries, m.Entries = []api.Entry{}, nil
			}
		}
		nextX, toldX := tree.Apply(x, o)
		nextY, toldY := tree.Apply(y, o)
		if !equal(nextX, nextY) || !equalResults(toldX, toldY) || !tree.Same(x, y) || !tree.Same(nextX, nextY) {
			t.Fatalf("%v told %v %s, and %v %s", o, toldX, text(nextX), toldY, text(nextY))
		}
		o.Data = append([]byte{}, o.Data...)
		nextX, toldX = tree.Apply(x, o)
		if !equal(nextX, nextY) || !equalResults(toldX, toldY) {
			t.Fatalf("%v told %v %s, and %v %s", o, toldX, text(nextX), toldY, text(nextY))
		}
	}
}
