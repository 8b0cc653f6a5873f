package tree_test

import (
	"math/rand"
	"slices"
	"strings"
	"testing"

	"ledgerstone/api"
	"ledgerstone/tree"
)

// anyPath is a path of a few names, mostly one that x has or that is one name longer, now and then something that is no path.
func anyPath(r *rand.Rand, x api.Tree) string {
	l := modelOf(x).paths()
	switch k := r.Intn(40); {
	case k == 0:
		return []string{"", "a", "/a/", "//", "/./a", "/a/..", "/a\x00", "/" + strings.Repeat("n", 61), strings.Repeat("/a", 17), "/" + strings.Repeat("n", 400)}[r.Intn(10)]
	case k < 5:
		return "/" + strings.Join(slices.Repeat([]string{"a", "b"}[:1+r.Intn(2)], 1+r.Intn(3)), "/")
	case k < 25:
		return l[r.Intn(len(l))]
	}
	return below(l[r.Intn(len(l))], []string{"a", "b", "c", "A", "a!", "n" + strings.Repeat("0", r.Intn(60))}[r.Intn(6)])
}

// anyNumber is a number, near an edge or a small one.
func anyNumber(r *rand.Rand) int {
	edges := []int{-1 << 63, -2, -1, 131071, 131072, 131073, 1 << 31, 1<<63 - 1}
	if r.Intn(12) == 0 {
		return edges[r.Intn(len(edges))]
	}
	return r.Intn(8)
}

// anyOp is an operation on x.
func anyOp(r *rand.Rand, x api.Tree) api.Op {
	o := api.Op{Kind: api.OpKind(1 + r.Intn(11)), Path: anyPath(r, x), To: anyPath(r, x), At: anyNumber(r), Count: anyNumber(r), Data: []byte("data-!"[:r.Intn(7)])}
	if r.Intn(60) == 0 {
		o.Kind = []api.OpKind{0, 12, 13, 255}[r.Intn(4)]
	}
	if o.Kind == 3 && r.Intn(2) == 0 { // a link of a file is rare
		o.To = anyPath(r, x)
	}
	return o
}

// byChance is a tree that grew by so many operations, of which some err.
func byChance(r *rand.Rand, n int) api.Tree {
	x := tree.New()
	for range n {
		o := anyOp(r, x)
		if o.Kind > 6 && r.Intn(2) == 0 {
			o.Kind = api.OpKind(1 + r.Intn(3))
		}
		if o.Kind == 7 && o.Count > 1000 || o.Kind == 9 && o.At > 1000 {
			continue // small files are enough
		}
		x, _ = tree.Apply(x, o)
	}
	return x
}

// likeModel is one operation, told as the model tells it, and the tree behind it.
func likeModel(t *testing.T, x api.Tree, o api.Op) (api.Tree, api.Result) {
	t.Helper()
	next, r := tree.Apply(x, o)
	want, wantR := modelApply(x, o)
	if !equalResults(r, wantR) || !equal(next, want) {
		t.Fatalf("%v of %s told %v and %s, wanted %v and %s", o, text(x), r, text(next), wantR, text(want))
	}
	return next, r
}

// P22.2, P22.3, P22.4: long lists of operations by chance.
func TestApplyByChance(t *testing.T) {
	t.Parallel()
	told := map[api.Errno]int{}
	kinds := map[api.OpKind]int{}
	for seed := range int64(3000) {
		r := rand.New(rand.NewSource(seed))
		x := tree.New()
		for range 60 {
			o := anyOp(r, x)
			next, got := likeModel(t, x, o)
			told[got.Err]++
			if got.Err == 0 {
				kinds[o.Kind]++
			}
			x = next
			path := anyPath(r, x)
			id, err := tree.Find(x, path)
			if wantId, wantErr := modelFind(x, path); id != wantId || err != wantErr {
				t.Fatalf("Find of %q in %s told %d %v", path, text(x), id, err)
			}
		}
		if l := tree.Paths(x); !slices.Equal(l, modelPaths(x)) {
			t.Fatalf("Paths of %s told %q", text(x), l)
		}
	}
	for _, err := range []api.Errno{0, 2, 210, 211, 212, 213, 214, 215, 216, 217, 219} {
		if told[err] < 100 {
			t.Fatal("the test itself", err, told[err])
		}
	}
	for kind := api.OpKind(1); kind <= 11; kind++ {
		if kinds[kind] < 200 {
			t.Fatal("the test itself", kind, kinds[kind])
		}
	}
}
