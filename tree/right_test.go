package tree_test

import (
	"math/rand"
	"slices"
	"strings"
	"testing"

	"ledgerstone/api"
	"ledgerstone/tree"
)

// judged is whether a tree is to be right; where it is not, all calls are to say so.
func judged(t *testing.T, want bool, x api.Tree, said ...string) {
	t.Helper()
	if got := tree.Right(x); got != want || modelRight(x) != want {
		t.Fatalf("Right told %v of %s (%v)", got, text(x), said)
	}
	l := tree.Paths(x)
	id, err := tree.Find(x, "/")
	_, r := tree.Apply(x, stat("/"))
	if want {
		if len(l) < len(x.Nodes) || l[0] != "/" || id != 1 || err != 0 || r.Err != 0 || !tree.Same(x, x) {
			t.Fatalf("right is %s (%v): %q %d %v %v", text(x), said, l, id, err, r)
		}
		return
	}
	if len(l) != 0 || id != 0 || err != 2 || tree.Same(x, x) || tree.Same(x, tree.New()) || tree.Same(tree.New(), x) {
		t.Fatalf("wrong is %s (%v): %q %d %v", text(x), said, l, id, err)
	}
	for _, o := range []api.Op{stat("/"), create("/a"), {}, {Kind: 12}, stat(""), link("/a", ""), read("/a", -1, 0), list("/a/.")} {
		next, r := tree.Apply(x, o)
		if !equalResults(r, api.Result{Err: 2}) || !equal(next, x) {
			t.Fatalf("%v of the wrong %s (%v) told %s %v", o, text(x), said, text(next), r)
		}
	}
}

// some is a right tree of a few nodes: /a, /a/c (7), /a/c/f (9, also /g), /b and /h.
func some() api.Tree {
	return treeOf(12, dirOf(1, "a 3", "b 4", "g 9", "h 11"), dirOf(3, "c 7"), fileOf(4, 1, "four"), dirOf(7, "f 9"), fileOf(9, 2, "nine"), fileOf(11, 1, ""))
}

// P22.1: right trees of all kinds.
func TestRight(t *testing.T) {
	for _, x := range []api.Tree{
		treeOf(2, dirOf(1)),
		treeOf(3, dirOf(1)),
		treeOf(1<<30, dirOf(1)),
		treeOf(3, dirOf(1, "a 2"), fileOf(2, 1, "")),
		treeOf(3, dirOf(1, "a 2"), dirOf(2)),
		treeOf(1<<30, dirOf(1, "a 1073741823"), dirOf(1<<30-1)),
		treeOf(4, dirOf(1, "a 3"), dirOf(2), dirOf(3, "a 2")), // below a node stands one with a lesser Id
		treeOf(4, dirOf(1, "a 3", "b 2"), dirOf(2), dirOf(3)), // the names rise, what they name does not
		treeOf(4, dirOf(1, "a 2", "b 3", "c 2"), fileOf(2, 3, ""), dirOf(3, "x 2")),
		treeOf(3, dirOf(1, "a 2", "aa 2", "b 2"), fileOf(2, 3, "")),
		treeOf(3, dirOf(1, "A 2", "a 2", "\xff 2", "\xff\xff 2"), fileOf(2, 4, "")),
		treeOf(3, dirOf(1, strings.Repeat("n", 60)+" 2"), fileOf(2, 1, "")),
		treeOf(3, dirOf(1, "a 2"), fileOf(2, 1, noughts(131072))),
		wide(1, "n", 128), wide(2, "n", 128), linked("n", 100), some(),
	} {
		judged(t, true, x)
	}
}

// P22.1: an empty list and none are the same.
func TestRightOfEmptyLists(t *testing.T) {
	x := treeOf(3, dirOf(1, "a 2"), fileOf(2, 1, ""))
	x.Nodes[0].Data, x.Nodes[1].Data, x.Nodes[1].Entries = []byte{}, []byte{}, []api.Entry{}
	judged(t, true, x)
	judged(t, true, treeOf(2, api.Node{Id: 1, Kind: 2, Links: 1, Data: make([]byte, 0, 9), Entries: make([]api.Entry, 0, 9)}))
}

// P22.1: each thing that is asked of a right tree, broken alone.
func TestWrong(t *testing.T) {
	for said, x := range map[string]api.Tree{
		"nothing":                      {},
		"no nodes":                     treeOf(2),
		"no root":                      treeOf(3, dirOf(2)),
		"the root is not the first":    treeOf(3, dirOf(2), dirOf(1, "a 2")),
		"the root has the Id 0":        treeOf(2, dirOf(0)),
		"one ahead of the root":        treeOf(2, dirOf(0), dirOf(1, "a 0")),
		"one far ahead of the root":    treeOf(2, dirOf(-5), dirOf(1, "a -5")),
		"the root is a file":           treeOf(2, fileOf(1, 1, "")),
		"a file, and a ring of one":    treeOf(3, fileOf(1, 1, ""), dirOf(2, "a 2")),
		"a named file, and a ring":     treeOf(3, fileOf(1, 1, ""), dirOf(2, "a 1", "b 2")),
		"the root is unused":           treeOf(2, api.Node{Id: 1, Links: 1}),
		"the root has no link":         treeOf(2, api.Node{Id: 1, Kind: 2}),
		"the root has two links":       treeOf(2, api.Node{Id: 1, Kind: 2, Links: 2}),
		"the root has bytes":           treeOf(2, api.Node{Id: 1, Kind: 2, Links: 1, Data: []byte{0}}),
		"Next is 0":                    treeOf(0, dirOf(1)),
		"Next is the root's Id":        treeOf(1, dirOf(1)),
		"Next is below 0":              treeOf(-1, dirOf(1)),
		"Next is an Id":                treeOf(2, dirOf(1, "a 2"), dirOf(2)),
		"Next is the last one's Id":    treeOf(9, dirOf(1, "a 3", "b 9"), dirOf(3), dirOf(9)),
		"Next is between the Ids":      treeOf(5, dirOf(1, "a 3", "b 9"), dirOf(3), dirOf(9)),
		"Next is above 2^30":           treeOf(1<<30+1, dirOf(1)),
		"Next is far above 2^30":       treeOf(1<<62, dirOf(1)),
		"an Id is 2^30":                treeOf(1<<30, dirOf(1, "a 1073741824"), dirOf(1<<30)),
		"an Id is 2^30, Next above it": treeOf(1<<30+1, dirOf(1, "a 1073741824"), dirOf(1<<30)),
		"an Id twice":                  treeOf(3, dirOf(1, "a 2", "b 2"), fileOf(2, 1, ""), fileOf(2, 1, "")),
		"an Id twice, named once":      treeOf(3, dirOf(1, "a 2"), fileOf(2, 1, ""), fileOf(2, 1, "")),
		"the root twice":               treeOf(2, dirOf(1), dirOf(1)),
		"Ids fall":                     treeOf(4, dirOf(1, "a 2", "b 3"), dirOf(3), dirOf(2)),
		"a directory without a link":   treeOf(3, dirOf(1), api.Node{Id: 2, Kind: 2}),
		"a directory of links 0":       treeOf(3, dirOf(1, "a 2"), api.Node{Id: 2, Kind: 2}),
		"a directory of links 2":       treeOf(3, dirOf(1, "a 2"), api.Node{Id: 2, Kind: 2, Links: 2}),
		"a directory of two names":     treeOf(3, dirOf(1, "a 2", "b 2"), dirOf(2)),
		"a directory of two links":     treeOf(3, dirOf(1, "a 2", "b 2"), api.Node{Id: 2, Kind: 2, Links: 2}),
		"a directory with bytes":       treeOf(3, dirOf(1, "a 2"), api.Node{Id: 2, Kind: 2, Links: 1, Data: []byte("x")}),
		"a file with entries":          treeOf(4, dirOf(1, "a 2", "b 3"), api.Node{Id: 2, Kind: 1, Links: 1, Entries: []api.Entry{{Name: "x", Id: 3}}}, fileOf(3, 2, "")),
		"a file names one":             treeOf(4, dirOf(1, "a 2"), api.Node{Id: 2, Kind: 1, Links: 1, Entries: []api.Entry{{Name: "x", Id: 3}}}, fileOf(3, 1, "")),
		"a file without links":         treeOf(3, dirOf(1), fileOf(2, 0, "")),
		"a file of links 0":            treeOf(3, dirOf(1, "a 2"), fileOf(2, 0, "")),
		"a file of links -1":           treeOf(3, dirOf(1, "a 2"), fileOf(2, -1, "")),
		"a file without a name":        treeOf(3, dirOf(1), fileOf(2, 1, "")),
		"a file of too few links":      treeOf(3, dirOf(1, "a 2", "b 2"), fileOf(2, 1, "")),
		"a file of too many links":     treeOf(3, dirOf(1, "a 2", "b 2"), fileOf(2, 3, "")),
		"a file of 101 links":          linked("n", 101),
		"a file of 131073 bytes":       treeOf(3, dirOf(1, "a 2"), fileOf(2, 1, noughts(131073))),
		"a node of kind 0":             treeOf(3, dirOf(1, "a 2"), api.Node{Id: 2, Links: 1}),
		"a node of kind 3":             treeOf(3, dirOf(1, "a 2"), api.Node{Id: 2, Kind: 3, Links: 1}),
		"a node of kind 255":           treeOf(3, dirOf(1, "a 2"), api.Node{Id: 2, Kind: 255, Links: 1}),
		"129 entries":                  wide(1, "n", 129),
		"129 directories":              wide(2, "n", 129),
		"names fall":                   treeOf(4, dirOf(1, "b 2", "a 3"), dirOf(2), dirOf(3)),
		"a name twice":                 treeOf(4, dirOf(1, "a 2", "a 3"), dirOf(2), dirOf(3)),
		"a name of one file twice":     treeOf(3, dirOf(1, "a 2", "a 2"), fileOf(2, 2, "")),
		"the last names fall":          treeOf(5, dirOf(1, "a 2", "c 3", "b 4"), dirOf(2), dirOf(3), dirOf(4)),
		"names fall below":             treeOf(5, dirOf(1, "a 2"), dirOf(2, "b 3", "a 4"), dirOf(3), dirOf(4)),
		"a name of 61 bytes":           treeOf(3, dirOf(1, strings.Repeat("n", 61)+" 2"), dirOf(2)),
		"a name of no bytes":           treeOf(3, dirOf(1, " 2"), dirOf(2)),
		"a name with a slash":          treeOf(3, dirOf(1, "a/b 2"), dirOf(2)),
		"a name with a nought":         treeOf(3, dirOf(1, "a\x00 2"), dirOf(2)),
		"a dot":                        treeOf(3, dirOf(1, ". 2"), dirOf(2)),
		"two dots":                     treeOf(3, dirOf(1, ".. 2"), dirOf(2)),
		"the last name is none":        treeOf(4, dirOf(1, "a 2", "b/ 3"), dirOf(2), dirOf(3)),
		"the name of nothing":          treeOf(3, dirOf(1, "a 2")),
		"the name of the next one":     treeOf(2, dirOf(1, "a 2")),
		"the name of 0":                treeOf(2, dirOf(1, "a 0")),
		"one of two names nothing":     treeOf(4, dirOf(1, "a 2", "b 3"), dirOf(2)),
		"the root names itself":        treeOf(2, dirOf(1, "a 1")),
		"the root is named":            treeOf(3, dirOf(1, "a 2"), dirOf(2, "b 1")),
		"the root's Links are right":   treeOf(2, api.Node{Id: 1, Kind: 2, Links: 2, Entries: []api.Entry{{Name: "a", Id: 1}}}),
		"one names itself":             treeOf(3, dirOf(1), dirOf(2, "a 2")),
		"two name each other":          treeOf(4, dirOf(1), dirOf(2, "a 3"), dirOf(3, "a 2")),
		"three go round":               treeOf(6, dirOf(1, "a 2"), dirOf(2), dirOf(3, "a 4"), dirOf(4, "a 5"), dirOf(5, "a 3")),
		"a file hangs on a ring":       treeOf(4, dirOf(1), dirOf(2, "a 2", "b 3"), fileOf(3, 1, "")),
		"a file hangs on both":         treeOf(4, dirOf(1, "a 3"), dirOf(2, "a 2", "b 3"), fileOf(3, 2, "")),
		"a directory stands alone":     treeOf(3, dirOf(1), dirOf(2)),
		"a tree stands alone":          treeOf(4, dirOf(1), dirOf(2, "a 3"), fileOf(3, 1, "")),
	} {
		judged(t, false, x, said)
	}
}

// P22.1: each field of a right tree, changed to others.
func TestWrongByOneField(t *testing.T) {
	rights := 0
	count := func(change func(x *api.Tree)) {
		x := some()
		change(&x)
		want := modelRight(x)
		judged(t, want, x)
		if want {
			rights++
		}
	}
	for next := -1; next < 16; next++ {
		count(func(x *api.Tree) { x.Next = next })
	}
	for i := range some().Nodes {
		for v := -1; v < 14; v++ {
			count(func(x *api.Tree) { x.Nodes[i].Id = v })
			count(func(x *api.Tree) { x.Nodes[i].Links = v })
			count(func(x *api.Tree) { x.Nodes[i].Kind = api.Kind(max(v, 0)) })
			for at := range some().Nodes[i].Entries {
				count(func(x *api.Tree) { x.Nodes[i].Entries[at].Id = v })
				count(func(x *api.Tree) { x.Nodes[i].Entries[at].Name = string(rune('a' + v)) })
			}
		}
		count(func(x *api.Tree) { x.Nodes[i].Data = nil })
		count(func(x *api.Tree) { x.Nodes[i].Data = []byte("data") })
		count(func(x *api.Tree) { x.Nodes[i].Entries = nil })
		count(func(x *api.Tree) { x.Nodes = slices.Delete(x.Nodes, i, i+1) })
		count(func(x *api.Tree) { x.Nodes = slices.Insert(x.Nodes, i, x.Nodes[i]) })
		count(func(x *api.Tree) { x.Nodes[0], x.Nodes[i] = x.Nodes[i], x.Nodes[0] })
	}
	if rights < 30 || rights > 200 {
		t.Fatal("the test itself", rights)
	}
}

// entryLists is all lists of up to two entries of these names and Ids.
func entryLists(names []string, ids []int) [][]api.Entry {
	out := [][]api.Entry{nil}
	var ones []api.Entry
	for _, name := range names {
		for _, id := range ids {
			ones = append(ones, api.Entry{Name: name, Id: id})
		}
	}
	for _, e := range ones {
		out = append(out, []api.Entry{e})
		for _, f := range ones {
			out = append(out, []api.Entry{e, f})
		}
	}
	return out
}

// everySmall hands on all trees of up to three nodes whose entries are up to two, right and wrong ones.
func everySmall(yield func(api.Tree)) {
	lists := entryLists([]string{"a", "b"}, []int{1, 2, 3, 4})
	var lower []api.Node // a node but the root, of any Id
	for _, l := range lists {
		lower = append(lower, api.Node{Kind: 2, Links: 1, Entries: l})
	}
	for links := range 4 {
		lower = append(lower, api.Node{Kind: 1, Links: links})
	}
	lower = append(lower, api.Node{Kind: 1, Links: 1, Entries: lists[1]}, api.Node{Kind: 2, Links: 2}, api.Node{Kind: 2}, api.Node{Links: 1})
	for _, l := range lists {
		first := api.Node{Id: 1, Kind: 2, Links: 1, Entries: l}
		yield(treeOf(4, first))
		for _, second := range lower {
			second.Id = 2
			yield(treeOf(4, first, second))
			for _, third := range lower {
				third.Id = 3
				yield(treeOf(4, first, second, third))
			}
		}
	}
}

// P22.1: every small tree.
func TestRightOfEverySmall(t *testing.T) {
	t.Parallel()
	count, rights := 0, 0
	everySmall(func(x api.Tree) {
		count++
		want := modelRight(x)
		if want {
			rights++
		}
		if tree.Right(x) != want {
			t.Fatalf("Right told %v of %s", !want, text(x))
		}
	})
	if count < 400000 || rights < 20 {
		t.Fatal("the test itself", count, rights)
	}
}

// spoilt is a right tree, in which by chance a thing or a few are others.
func spoilt(r *rand.Rand, x api.Tree) api.Tree {
	x = deepCopy(x)
	for range 1 + r.Intn(2) {
		i := r.Intn(len(x.Nodes))
		n := &x.Nodes[i]
		switch r.Intn(9) {
		case 0:
			n.Id += r.Intn(3) - 1
		case 1:
			n.Links += r.Intn(3) - 1
		case 2:
			n.Kind = api.Kind(r.Intn(4))
		case 3:
			x.Next = r.Intn(x.Next + 3)
		case 4:
			n.Data = nil
		case 5:
			x.Nodes = append(x.Nodes[:i], x.Nodes[i+1:]...)
			if len(x.Nodes) == 0 {
				return x
			}
		default:
			if len(n.Entries) > 0 {
				e := &n.Entries[r.Intn(len(n.Entries))]
				if r.Intn(2) == 0 {
					e.Id = r.Intn(x.Next + 1)
				} else {
					e.Name = []string{"a", "b", "c", "..", "x/y"}[r.Intn(5)]
				}
			}
		}
	}
	return x
}

// P22.1: trees that grew by chance, and what is left of them when a thing of them is another.
func TestRightByChance(t *testing.T) {
	t.Parallel()
	rights, wrongs := 0, 0
	for seed := range int64(6000) {
		r := rand.New(rand.NewSource(seed))
		x := byChance(r, 5+r.Intn(40))
		judged(t, true, x)
		y := spoilt(r, x)
		want := modelRight(y)
		judged(t, want, y)
		if want {
			rights++
		} else {
			wrongs++
		}
	}
	if rights < 500 || wrongs < 2000 {
		t.Fatal("the test itself", rights, wrongs)
	}
}

// chain is n directories, each one in the one ahead of it but for the first one, which is the root's; names are told by their places.
func chain(n int, name func(i int) string) api.Tree {
	x := treeOf(n+2, dirOf(1))
	for i := range n {
		x.Nodes[i].Entries = []api.Entry{{Name: name(i), Id: i + 2}}
		x.Nodes = append(x.Nodes, dirOf(i+2))
	}
	return x
}

// P22.1: a right tree may be deeper than a path has names, and have more nodes than a disk.
func TestRightOfDeepAndGreat(t *testing.T) {
	t.Parallel()
	deep := chain(60000, func(int) string { return "n" })
	great := treeOf(2+128*129, dirOf(1))
	for i, name := range numbered("n", 128) {
		great.Nodes[0].Entries = append(great.Nodes[0].Entries, api.Entry{Name: name, Id: i + 2})
		great.Nodes = append(great.Nodes, dirOf(i+2))
	}
	for i := range 128 {
		for k, name := range numbered("m", 128) {
			id := 130 + 128*i + k
			great.Nodes[i+1].Entries = append(great.Nodes[i+1].Entries, api.Entry{Name: name, Id: id})
			great.Nodes = append(great.Nodes, fileOf(id, 1, name))
		}
	}
	for _, x := range []api.Tree{deep, great} {
		last := len(x.Nodes) - 1
		if !tree.Right(x) || !tree.Same(x, x) {
			t.Fatal("a great tree is not right")
		}
		x.Nodes = append(slices.Clone(x.Nodes), fileOf(x.Next, 1, ""))
		x.Next++
		if tree.Right(x) || tree.Right(api.Tree{Nodes: x.Nodes[:last], Next: x.Next}) {
			t.Fatal("a great tree is right")
		}
	}
	deep.Nodes[30000].Entries, deep.Nodes[60000].Entries = nil, deep.Nodes[30000].Entries // what stood below is a ring
	if tree.Right(deep) {
		t.Fatal("a ring is right")
	}
}
