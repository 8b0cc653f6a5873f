package tree_test

import (
	"fmt"
	"slices"
	"testing"

	"ledgerstone/api"
	"ledgerstone/tree"
)

// everyOp is each operation with these paths, and with a few numbers and bytes.
func everyOp(paths []string) []api.Op {
	var out []api.Op
	for _, p := range paths {
		out = append(out, create(p), mkdir(p), unlink(p), rmdir(p), list(p), stat(p))
		out = append(out, truncate(p, 0), truncate(p, 2), read(p, 0, 9), read(p, 1, 1), write(p, 0, "x"), write(p, 2, "yz"), write(p, 1, ""))
		out = append(out, truncate(p, -1), truncate(p, 131073), read(p, -1, 0), write(p, 131073, ""))
		for _, to := range paths {
			out = append(out, link(p, to), rename(p, to))
		}
	}
	return out
}

// withoutIds is what a tree tells but for its Ids.
func withoutIds(x api.Tree) string {
	m := modelOf(x)
	out := ""
	for _, p := range m.paths() {
		first := p // the least path of the same thing
		for q, other := range m.at {
			if other == m.at[p] {
				first = min(first, q)
			}
		}
		out += fmt.Sprintf("%q %v %q %q;", p, m.at[p].isDir, m.at[p].data, first)
	}
	return out
}

// P22.3: from New on, each tree that a few operations lead to, and each operation on each of them.
func TestEveryOpOnEveryTree(t *testing.T) {
	t.Parallel()
	ops := everyOp([]string{"/", "/a", "/b", "/a/a", "/a/b", "/b/a", "/b/a/a"})
	line := []api.Tree{tree.New()}
	met := map[string]bool{withoutIds(tree.New()): true}
	told := map[api.Errno]int{}
	for i := 0; i < len(line) && i < 2500; i++ {
		for _, o := range ops {
			next, r := likeModel(t, line[i], o)
			told[r.Err]++
			if r.Err == 0 && o.Kind <= 9 && o.Kind != 8 && len(next.Nodes) <= 5 {
				if key := withoutIds(next); !met[key] {
					met[key] = true
					line = append(line, next)
				}
			}
		}
	}
	if len(line) < 2500 {
		t.Fatal("the test itself", len(line))
	}
	for _, err := range []api.Errno{0, 2, 212, 213, 214, 215, 216, 217, 219} {
		if told[err] < 1000 {
			t.Fatal("the test itself", err, told[err])
		}
	}
}

// P22.2, P22.4: each path in each tree that a few operations lead to.
func TestEveryPathOfEveryTree(t *testing.T) {
	t.Parallel()
	var paths []string
	for n, l := 0, []string{""}; n <= 3; n++ {
		var longer []string
		for _, p := range l {
			paths = append(paths, max(p, "/"))
			longer = append(longer, p+"/a", p+"/b", p+"/c")
		}
		l = longer
	}
	line := []api.Tree{tree.New()}
	met := map[string]bool{}
	ops := everyOp([]string{"/a", "/b", "/a/a", "/a/b", "/b/a"})
	for i := 0; i < len(line) && i < 400; i++ {
		x := line[i]
		for _, p := range paths {
			want, wantErr := modelFind(x, p)
			finds(t, x, p, want, wantErr)
		}
		if l := tree.Paths(x); !slices.Equal(l, modelPaths(x)) {
			t.Fatalf("Paths of %s told %q", text(x), l)
		}
		for _, o := range ops {
			next, _ := tree.Apply(x, o)
			if key := withoutIds(next); !met[key] && o.Kind <= 6 {
				met[key] = true
				line = append(line, next)
			}
		}
	}
	if len(line) < 400 {
		t.Fatal("the test itself", len(line))
	}
	for _, a := range line[:120] {
		for _, b := range line[:120] {
			same(t, withoutIds(a) == withoutIds(b), a, b)
		}
	}
}

// P22.3: long lists of operations on a few names, so that directories and links get to their limits.
func TestAtTheLimits(t *testing.T) {
	t.Parallel()
	told := map[api.Errno]int{}
	for _, size := range []int{99, 100, 127, 128} {
		var all []api.Tree
		if size <= 100 {
			all = append(all, linked("n", size))
		}
		all = append(all, wide(1, "n", size), wide(2, "n", size))
		for _, x := range all {
			for _, first := range []api.Op{stat("/"), unlink("/n004"), rmdir("/n004"), unlink("/n003"), rmdir("/n003"), create("/n000/x"), mkdir("/n000/x"), mkdir("/a"), create("/a"), link("/n001", "/a"), rename("/n001", "/n002")} {
				y, _ := likeModel(t, x, first)
				for _, o := range everyOp([]string{"/", "/a", "/b", "/n000", "/n001", "/n000/x", "/n000/y"}) {
					next, r := likeModel(t, y, o)
					told[r.Err]++
					if r.Err == 0 && (o.Kind <= 3 || o.Kind == 6) && o.Path != "/n001" {
						_, r = likeModel(t, next, create("/c"))
						told[r.Err]++
						_, r = likeModel(t, next, link("/n002", "/c"))
						told[r.Err]++
					}
				}
			}
		}
	}
	for _, err := range []api.Errno{0, 5, 218} {
		if told[err] < 100 {
			t.Fatal("the test itself", err, told[err])
		}
	}
}
