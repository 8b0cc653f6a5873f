package table_test

import (
	"math/rand"
	"slices"
	"testing"

	"ledgerstone/api"
	"ledgerstone/table"
	"ledgerstone/tl2"
)

// follows is what is to hold of a table, whatever was done with it: its cells are a right list, of those keys and values that were put last and not removed behind that.
func follows(t *testing.T, x *tx, y *table.Table, base, n int, last map[string]string, gone map[string]int) {
	t.Helper()
	var cells []entry
	for i := range n {
		e, err := x.Read(base + i)
		done(t, err)
		cells = append(cells, e)
	}
	if !table.Right(cells) || !isRight(cells) {
		t.Fatal("no right list", cells)
	}
	for key, value := range last {
		gets(t, y, key, value)
	}
	for key := range gone {
		lacks(t, y, key)
	}
	l, err := y.List()
	if err != api.OK || len(l) != len(last) || !slices.Equal(l, cells[:len(l)]) {
		t.Fatal(l, err, "wanted", len(last))
	}
	at, have := "", len(l) > 0 && l[0].Key == ""
	if have {
		l = l[1:]
	}
	for range l { // from one Next to the next one all are told
		e, ok, err := y.Next(at)
		if !ok || err != api.OK || e != l[0] {
			t.Fatal(e, ok, err, "wanted", l[0])
		}
		at, l = e.Key, l[1:]
	}
	noNext(t, y, at)
}

// P20.4: what Put and Remove leave is a table; Get tells the value that was put last, and nothing behind a Remove: many calls by chance, in transactions one behind the other, some of which are aborted.
func TestWhatFollows(t *testing.T) {
	t.Parallel()
	puts, removes, fulls := 0, 0, 0
	for seed := range int64(60) {
		r := rand.New(rand.NewSource(seed))
		n := []int{1, 2, 3, 10, 30, 60}[seed%6]
		if seed == 0 {
			n = 200
		}
		base := r.Intn(5)
		m := empty(t, n+10)
		last, gone := map[string]string{}, map[string]int{}
		keys := append(oddKeys(), numbered(2*n)...)
		r.Shuffle(len(keys), func(i, j int) { keys[i], keys[j] = keys[j], keys[i] })
		keys = keys[:n+1+r.Intn(n)]
		for owner := 1; owner < 12; owner++ {
			x := begun(t, m, owner)
			y := of(t, x, base, n)
			follows(t, x, y, base, n, last, gone)
			lastThen, goneThen := clone(last), clone(gone)
			for range 2 + 2*min(n, 60) {
				k := keys[r.Intn(len(keys))]
				_, isThere := last[k]
				switch value := key(r.Intn(3))[r.Intn(5):]; {
				case r.Intn(3) == 0:
					ok, err := y.Remove(k)
					if ok != isThere || err != api.OK {
						t.Fatal(k, ok, err)
					}
					delete(last, k)
					gone[k]++
					removes++
				case !isThere && len(last) == n:
					tells(t, y.Put(k, value), api.ErrFull)
					gone[k]++
					fulls++
				default:
					tells(t, y.Put(k, value), api.OK)
					last[k] = value
					delete(gone, k)
					puts++
				}
				if n < 20 || r.Intn(2*n) == 0 {
					follows(t, x, y, base, n, last, gone)
				}
			}
			follows(t, x, y, base, n, last, gone)
			if r.Intn(3) == 0 {
				done(t, x.Abort())
				last, gone = lastThen, goneThen
				continue
			}
			commits(t, x)
			if x.Status() != tl2.Done {
				t.Fatal(x.Status())
			}
		}
	}
	if puts < 5000 || removes < 5000 || fulls < 1000 {
		t.Fatal("the test itself", puts, removes, fulls)
	}
}

// numbered is n keys.
func numbered(n int) []string {
	var out []string
	for k := range n {
		out = append(out, key(k))
	}
	return out
}

func clone[V any](m map[string]V) map[string]V {
	out := map[string]V{}
	for k, v := range m {
		out[k] = v
	}
	return out
}

// P20.4: Put and Remove of other keys in any order come out the same; a Put and a Remove of one key leave the cells as they were.
func TestOrderDoesNotMatter(t *testing.T) {
	for seed := range int64(40) {
		r := rand.New(rand.NewSource(seed))
		keys := oddKeys()
		first, x := alone(t, len(keys))
		second, z := alone(t, len(keys))
		for _, k := range r.Perm(len(keys)) {
			puts(t, first, keys[k], key(k))
		}
		for _, k := range r.Perm(len(keys)) {
			puts(t, second, keys[k], "other")
			puts(t, second, keys[k], key(k))
		}
		for _, k := range r.Perm(len(keys)) {
			got, _ := x.Read(k)
			hold(t, z, k, got)
		}
		gone := r.Perm(len(keys))[:r.Intn(len(keys))]
		for _, k := range gone {
			removes(t, first, keys[k], true)
		}
		l, _ := first.List()
		for _, k := range gone {
			puts(t, first, keys[k], "back")
			removes(t, first, keys[k], true)
			lists(t, first, l...)
		}
		hold(t, x, 0, padded(len(keys), l...)...)
	}
}
