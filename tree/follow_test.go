package tree_test

import (
	"bytes"
	"math/rand"
	"slices"
	"testing"

	"ledgerstone/api"
	"ledgerstone/tree"
)

// does is an operation that is to be done without an error.
func does(t *testing.T, x api.Tree, o api.Op) (api.Tree, api.Result) {
	t.Helper()
	next, r := tree.Apply(x, o)
	if r.Err != 0 || !tree.Right(next) {
		t.Fatalf("%v of %s told %v %s", o, text(x), r, text(next))
	}
	return next, r
}

// idOf is what a path names; 0, if there is nothing.
func idOf(x api.Tree, path string) int {
	id, _ := tree.Find(x, path)
	return id
}

// whole is all bytes of a file.
func whole(x api.Tree, path string) []byte {
	_, r := tree.Apply(x, read(path, 0, 131072))
	return r.Data
}

// madeFollows is what is to hold behind a Create or Mkdir.
func madeFollows(t *testing.T, x, next api.Tree, o api.Op) {
	t.Helper()
	_, r := does(t, next, stat(o.Path))
	undo := unlink(o.Path)
	if o.Kind == 2 {
		undo = rmdir(o.Path)
	}
	back, _ := does(t, next, undo)
	back.Next--
	if idOf(next, o.Path) != x.Next || next.Next != x.Next+1 || r.Links != 1 || r.Size != 0 || !equal(back, x) {
		t.Fatalf("%v of %s led to %s", o, text(x), text(next))
	}
	if l := append(tree.Paths(x), o.Path); !slices.Equal(tree.Paths(next), slices.Sorted(slices.Values(l))) {
		t.Fatalf("%v of %s led to %s", o, text(x), text(next))
	}
}

// linkFollows is what is to hold behind a Link.
func linkFollows(t *testing.T, x, next api.Tree, o api.Op) {
	t.Helper()
	_, before := does(t, x, stat(o.Path))
	_, r := does(t, next, stat(o.To))
	back, _ := does(t, next, unlink(o.To))
	other, _ := does(t, next, unlink(o.Path))
	moved, _ := does(t, x, rename(o.Path, o.To))
	if idOf(next, o.To) != idOf(x, o.Path) || idOf(next, o.Path) != idOf(x, o.Path) || r.Links != before.Links+1 || r.Size != before.Size || !equal(back, x) || !equal(other, moved) {
		t.Fatalf("%v of %s led to %s", o, text(x), text(next))
	}
}

// goneFollows is what is to hold behind an Unlink or Rmdir.
func goneFollows(t *testing.T, x, next api.Tree, o api.Op) {
	t.Helper()
	l := tree.Paths(x)
	l = slices.DeleteFunc(l, func(p string) bool { return p == o.Path })
	if idOf(next, o.Path) != 0 || !slices.Equal(tree.Paths(next), l) || next.Next != x.Next {
		t.Fatalf("%v of %s led to %s", o, text(x), text(next))
	}
}

// renameFollows is what is to hold behind a Rename.
func renameFollows(t *testing.T, x, next api.Tree, o api.Op) {
	t.Helper()
	id, there := idOf(x, o.Path), idOf(x, o.To)
	switch {
	case idOf(next, o.To) != id || next.Next != x.Next:
		t.Fatalf("%v of %s led to %s", o, text(x), text(next))
	case there == id:
		if !equal(next, x) {
			t.Fatalf("%v of %s led to %s", o, text(x), text(next))
		}
	case idOf(next, o.Path) != 0:
		t.Fatalf("%v of %s led to %s", o, text(x), text(next))
	case there == 0:
		if back, _ := does(t, next, rename(o.To, o.Path)); !equal(back, x) {
			t.Fatalf("%v of %s led to %s", o, text(x), text(next))
		}
	}
}

// bytesFollow is what is to hold behind a Truncate or Write.
func bytesFollow(t *testing.T, x, next api.Tree, o api.Op) {
	t.Helper()
	before, after := whole(x, o.Path), whole(next, o.Path)
	from, to, size := o.At, o.At+len(o.Data), max(len(before), o.At+len(o.Data)) // what is written, and how long it is then
	switch {
	case o.Kind == 7:
		from, to, size = o.Count, o.Count, o.Count
	case len(o.Data) == 0:
		from, to, size = 0, 0, len(before)
	}
	if len(after) != size || o.Kind == 9 && !bytes.Equal(after[from:to], o.Data) {
		t.Fatalf("%v of %s led to %s", o, text(x), text(next))
	}
	for at, b := range after {
		if written := at >= from && at < to; !written && (at < len(before) && b != before[at] || at >= len(before) && b != 0) {
			t.Fatalf("%v of %s led to %s", o, text(x), text(next))
		}
	}
	if !slices.Equal(tree.Paths(x), tree.Paths(next)) || idOf(x, o.Path) != idOf(next, o.Path) {
		t.Fatalf("%v of %s led to %s", o, text(x), text(next))
	}
}

// listFollows is what is to hold of what List tells.
func listFollows(t *testing.T, x api.Tree, o api.Op, r api.Result) {
	t.Helper()
	_, s := does(t, x, stat(o.Path))
	if s.Kind != 2 || s.Size != len(r.Names) || !slices.IsSorted(r.Names) {
		t.Fatalf("%v of %s told %v", o, text(x), r)
	}
	paths := tree.Paths(x)
	for _, name := range r.Names {
		if !slices.Contains(paths, below(o.Path, name)) {
			t.Fatalf("%v of %s told %v", o, text(x), r)
		}
	}
}

// P22.5: what Apply tells is right, what reads changes nothing, and what is done can be seen by other operations and undone by them.
func TestFollows(t *testing.T) {
	t.Parallel()
	done := map[api.OpKind]int{}
	for seed := range int64(4000) {
		r := rand.New(rand.NewSource(seed))
		x := byChance(r, 20)
		for range 20 {
			o := anyOp(r, x)
			next, got := tree.Apply(x, o)
			if !tree.Right(next) || (got.Err != 0 || o.Kind == 8 || o.Kind >= 10) && !equal(next, x) {
				t.Fatalf("%v of %s led to %s", o, text(x), text(next))
			}
			if got.Err != 0 {
				if !equalResults(got, api.Result{Err: got.Err}) {
					t.Fatalf("%v of %s told %v", o, text(x), got)
				}
				continue
			}
			done[o.Kind]++
			switch o.Kind {
			case 1, 2:
				madeFollows(t, x, next, o)
			case 3:
				linkFollows(t, x, next, o)
			case 4, 5:
				goneFollows(t, x, next, o)
			case 6:
				renameFollows(t, x, next, o)
			case 7, 9:
				bytesFollow(t, x, next, o)
			case 10:
				listFollows(t, x, o, got)
			}
			x = next
		}
	}
	for kind := api.OpKind(1); kind <= 11; kind++ {
		if done[kind] < 100 {
			t.Fatal("the test itself", kind, done[kind])
		}
	}
}

// P22.5: each path of Paths that may be asked for is found, and no other one.
func TestPathsAreFound(t *testing.T) {
	t.Parallel()
	for seed := range int64(1000) {
		r := rand.New(rand.NewSource(seed))
		x := byChance(r, 30)
		paths := tree.Paths(x)
		links := map[int]int{}
		for i, p := range paths {
			if i > 0 && p <= paths[i-1] {
				t.Fatal(paths)
			}
			id, err := tree.Find(x, p)
			if err == api.ErrPath { // longer than one that is asked for
				continue
			}
			if err != 0 {
				t.Fatal(p, err)
			}
			links[id]++
			if p2 := anyPath(r, x); !slices.Contains(paths, p2) && idOf(x, p2) != 0 {
				t.Fatal(p2)
			}
		}
		for id, n := range links {
			if nodeOf(x, id).Links < n {
				t.Fatal(id, n, text(x))
			}
		}
	}
}
