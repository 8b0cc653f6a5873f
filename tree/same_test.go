package tree_test

import (
	"bytes"
	"math/rand"
	"slices"
	"strings"
	"testing"

	"ledgerstone/api"
	"ledgerstone/tree"
)

// same is what Same is to tell of two trees, either way round.
func same(t *testing.T, want bool, a, b api.Tree) {
	t.Helper()
	if tree.Same(a, b) != want || tree.Same(b, a) != want {
		t.Fatalf("Same of %s and %s is not %v", text(a), text(b), want)
	}
}

// renumbered is a tree with other Ids, in another order, and another Next.
func renumbered(r *rand.Rand, x api.Tree) api.Tree {
	x = deepCopy(x)
	ids := map[int]int{1: 1}
	fresh := r.Perm(3 * len(x.Nodes))
	for i, n := range x.Nodes[1:] {
		ids[n.Id] = fresh[i] + 2
	}
	for i := range x.Nodes {
		x.Nodes[i].Id = ids[x.Nodes[i].Id]
		for k := range x.Nodes[i].Entries {
			x.Nodes[i].Entries[k].Id = ids[x.Nodes[i].Entries[k].Id]
		}
	}
	slices.SortFunc(x.Nodes, func(a, b api.Node) int { return a.Id - b.Id })
	x.Next = x.Nodes[len(x.Nodes)-1].Id + 1 + r.Intn(5)
	return x
}

// P22.4: Ids and Next count nothing; all else does.
func TestSame(t *testing.T) {
	a := treeOf(4, dirOf(1, "a 2", "b 3"), fileOf(2, 1, "x"), dirOf(3))
	same(t, true, a, a)
	same(t, true, a, treeOf(9, dirOf(1, "a 2", "b 3"), fileOf(2, 1, "x"), dirOf(3)))
	same(t, true, a, treeOf(4, dirOf(1, "a 3", "b 2"), dirOf(2), fileOf(3, 1, "x")))
	same(t, true, a, treeOf(90, dirOf(1, "a 77", "b 3"), dirOf(3), fileOf(77, 1, "x")))
	for _, b := range []api.Tree{
		tree.New(),
		treeOf(4, dirOf(1, "a 2", "b 3"), dirOf(2), dirOf(3)),                                             // a kind
		treeOf(4, dirOf(1, "a 2", "b 3"), fileOf(2, 1, ""), dirOf(3)),                                     // the bytes
		treeOf(4, dirOf(1, "a 2", "b 3"), fileOf(2, 1, "y"), dirOf(3)),                                    //
		treeOf(4, dirOf(1, "a 2", "b 3"), fileOf(2, 1, "x\x00"), dirOf(3)),                                //
		treeOf(4, dirOf(1, "a 2", "b 3"), fileOf(2, 1, "x"), fileOf(3, 1, "")),                            // an empty directory, and a file without bytes
		treeOf(4, dirOf(1, "a 2", "c 3"), fileOf(2, 1, "x"), dirOf(3)),                                    // a name
		treeOf(4, dirOf(1, "b 2", "c 3"), fileOf(2, 1, "x"), dirOf(3)),                                    //
		treeOf(4, dirOf(1, "a 2", "b 3"), dirOf(2), fileOf(3, 1, "x")),                                    // two names
		treeOf(4, dirOf(1, "b 3"), fileOf(2, 1, "x"), dirOf(3, "a 2")),                                    // a place
		treeOf(3, dirOf(1, "a 2"), fileOf(2, 1, "x")),                                                     // one is missing
		treeOf(5, dirOf(1, "a 2", "b 3", "c 4"), fileOf(2, 1, "x"), dirOf(3), fileOf(4, 1, "")),           // one is more
		treeOf(5, dirOf(1, "a 2", "b 3"), fileOf(2, 1, "x"), dirOf(3, "c 4"), fileOf(4, 1, "")),           // one is more below
		treeOf(4, dirOf(1, "a 2", "b 3", "c 2"), fileOf(2, 2, "x"), dirOf(3)),                             // a link is more
		treeOf(4, dirOf(1, "a 2", "b 3"), fileOf(2, 2, "x"), dirOf(3, "a 2")),                             //
		treeOf(5, dirOf(1, "a 2", "b 3", "c 4"), fileOf(2, 1, "x"), dirOf(3), dirOf(4)),                   //
		treeOf(5, dirOf(1, "a 2", "b 3", "c 4"), fileOf(2, 1, "x"), dirOf(3), fileOf(4, 1, "x")),          //
		treeOf(6, dirOf(1, "a 2", "b 3"), fileOf(2, 1, "x"), dirOf(3, "c 5"), dirOf(5)),                   //
		treeOf(4, dirOf(1, "a 2", "b 3"), fileOf(2, 1, strings.Repeat("x", 131072)), dirOf(3)),            //
		treeOf(4, dirOf(1, "a 2", "b\x00 3"), fileOf(2, 1, "x"), dirOf(3)), api.Tree{}, wide(1, "n", 129), // not right
	} {
		same(t, false, a, b)
	}
	same(t, false, api.Tree{}, api.Tree{})
	same(t, false, wide(1, "n", 129), wide(1, "n", 129))
}

// P22.4: two paths of one node in one tree are so in the other: links tell, not bytes alone.
func TestSameByLinks(t *testing.T) {
	// Of four names two and two, or three and one, are those of a file, with the same bytes in all.
	var all []api.Tree
	for cut := range 16 {
		x := treeOf(4, dirOf(1), fileOf(2, 0, "x"), fileOf(3, 0, "x"))
		for i, name := range []string{"a", "b", "c", "d"} {
			id := 2 + cut>>i&1
			x.Nodes[0].Entries = append(x.Nodes[0].Entries, api.Entry{Name: name, Id: id})
			x.Nodes[id-1].Links++
		}
		if x.Nodes[1].Links > 0 && x.Nodes[2].Links > 0 {
			all = append(all, x)
		}
	}
	sames := 0
	for i, a := range all {
		for k, b := range all {
			want := i == k || i+k == len(all)-1 // the other file in each place is the same again
			same(t, want, a, b)
			if want {
				sames++
			}
		}
	}
	if len(all) != 14 || sames != 28 {
		t.Fatal("the test itself", len(all), sames)
	}
	// As many nodes, and each link count as often; the links lie in other directories.
	a := treeOf(6, dirOf(1, "a 2", "b 3"), dirOf(2, "x 4", "y 5"), dirOf(3, "x 4", "y 5"), fileOf(4, 2, ""), fileOf(5, 2, ""))
	b := treeOf(6, dirOf(1, "a 2", "b 3"), dirOf(2, "x 4", "y 5"), dirOf(3, "x 5", "y 4"), fileOf(4, 2, ""), fileOf(5, 2, ""))
	c := treeOf(6, dirOf(1, "a 2", "b 3"), dirOf(2, "x 4", "y 4"), dirOf(3, "x 5", "y 5"), fileOf(4, 2, ""), fileOf(5, 2, ""))
	for i, x := range []api.Tree{a, b, c} {
		for k, y := range []api.Tree{a, b, c} {
			same(t, i == k, x, y)
		}
	}
}

// P22.4: each right small tree held against each other one.
func TestSameOfEverySmall(t *testing.T) {
	t.Parallel()
	var all []api.Tree
	everySmall(func(x api.Tree) {
		if tree.Right(x) {
			all = append(all, x)
			for i, n := range x.Nodes {
				if n.Kind == 1 { // the same with other bytes
					y := deepCopy(x)
					y.Nodes[i].Data = []byte("x")
					all = append(all, y)
				}
			}
		}
	})
	sames := 0
	for i, a := range all {
		for k, b := range all {
			want := modelSame(a, b)
			same(t, want, a, b)
			if want && i != k {
				sames++
			}
		}
	}
	if len(all) < 30 || sames < 20 {
		t.Fatal("the test itself", len(all), sames)
	}
}

// P22.4: trees that grew by chance, with other Ids, and a thing or a few that are others.
func TestSameByChance(t *testing.T) {
	t.Parallel()
	sames, others := 0, 0
	for seed := range int64(3000) {
		r := rand.New(rand.NewSource(seed))
		x := byChance(r, 5+r.Intn(40))
		y := renumbered(r, x)
		same(t, true, x, y)
		z := y
		if r.Intn(2) == 0 {
			z, _ = tree.Apply(y, anyOp(r, y))
		} else {
			z = spoilt(r, y)
		}
		want := modelSame(x, z)
		same(t, want, x, z)
		if want {
			sames++
		} else {
			others++
		}
	}
	if sames < 300 || others < 1000 {
		t.Fatal("the test itself", sames, others)
	}
}

// P22.4: two trees are the same just if their paths are, and what each path tells.
func TestSameTellsTheSame(t *testing.T) {
	t.Parallel()
	for seed := range int64(400) {
		r := rand.New(rand.NewSource(seed))
		x := byChance(r, 30)
		y := renumbered(r, x)
		for range 20 {
			o := anyOp(r, x)
			nextX, toldX := tree.Apply(x, o)
			nextY, toldY := tree.Apply(y, o)
			if !equalResults(toldX, toldY) || !slices.Equal(tree.Paths(nextX), tree.Paths(nextY)) {
				t.Fatalf("%v told %v of %s and %v of %s", o, toldX, text(x), toldY, text(y))
			}
			same(t, true, nextX, nextY)
			x, y = nextX, nextY
		}
		for _, path := range tree.Paths(x) {
			a, errA := tree.Find(x, path)
			b, errB := tree.Find(y, path)
			if errA != errB || errA == 0 && !bytes.Equal(nodeOf(x, a).Data, nodeOf(y, b).Data) {
				t.Fatal(path, a, errA, b, errB)
			}
		}
	}
}

// pathsAre is what Paths is to tell.
func pathsAre(t *testing.T, x api.Tree, want ...string) {
	t.Helper()
	if got := tree.Paths(x); !slices.Equal(got, want) {
		t.Fatalf("Paths of %s told %q, wanted %q", text(x), got, want)
	}
}

// P22.4: all paths, the root's one among them, and each of a file with links.
func TestPaths(t *testing.T) {
	pathsAre(t, tree.New(), "/")
	pathsAre(t, some(), "/", "/a", "/a/c", "/a/c/f", "/b", "/g", "/h")
	pathsAre(t, treeOf(4, dirOf(1, "a 2", "b 3", "c 2"), fileOf(2, 3, ""), dirOf(3, "a 2")), "/", "/a", "/b", "/b/a", "/c")
	want := []string{"/"}
	for _, name := range numbered("n", 128) {
		want = append(want, "/"+name)
	}
	pathsAre(t, wide(1, "n", 128), want...)
	pathsAre(t, wide(2, "n", 128), want...)
	pathsAre(t, api.Tree{})
	pathsAre(t, wide(1, "n", 129))
}

// P22.4: paths rise as texts: a byte of a name may be below the slash.
func TestPathsRise(t *testing.T) {
	x := grown(t, mkdir("/a"), create("/a/x"), create("/a!"), create("/a-"), mkdir("/a."), create("/a./b"), create("/a0"), create("/a\x01"), create("/\x01"), create("/\xff"), mkdir("/!"), create("/!/!"))
	pathsAre(t, x, "/", "/\x01", "/!", "/!/!", "/a", "/a\x01", "/a!", "/a-", "/a.", "/a./b", "/a/x", "/a0", "/\xff")
}

// P22.4: a path of Paths may be longer than one that is asked for.
func TestPathsOfDeep(t *testing.T) {
	for _, n := range []int{16, 17, 100, 1000} {
		want := []string{"/"}
		for i := 1; i <= n; i++ {
			want = append(want, strings.Repeat("/"+strings.Repeat("n", 60), i))
		}
		pathsAre(t, chain(n, func(int) string { return strings.Repeat("n", 60) }), want...)
	}
}
