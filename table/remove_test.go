package table_test

import (
	"slices"
	"testing"

	"ledgerstone/api"
)

// P20.3: a key goes from each place of tables of all sizes, filled in part and full: the cells ahead of it are not written, all behind it are that were used.
func TestRemoveFromEachPlace(t *testing.T) {
	for _, n := range []int{1, 2, 3, 4, 7, 100, 199, 200} {
		for _, used := range []int{1, 2, n / 2, n - 1, n} {
			if used > n {
				continue
			}
			for k := range used {
				l := many(used)
				x := begun(t, filled(t, n+3, 2, l...), 1)
				y := of(t, x, 2, n)
				removes(t, y, l[k].Key, true)
				want := slices.Delete(slices.Clone(l), k, k+1)
				wrote(t, x, upTo(2+k, 1+used)...)
				hold(t, x, 2, padded(n, want...)...)
				lists(t, y, want...)
				lacks(t, y, l[k].Key)
				removes(t, y, l[k].Key, false)
				wrote(t, x, upTo(2+k, 1+used)...)
			}
		}
	}
}

// P20.3, R2: a key that is not there: false, and nothing is written; below, between and above those that are there, and the empty one.
func TestRemoveOfNone(t *testing.T) {
	for _, n := range []int{1, 2, 3, 7, 199, 200} {
		for _, used := range []int{0, 1, n / 2, n} {
			m := filled(t, n, 0, many(used)...)
			x := begun(t, m, 1)
			y := of(t, x, 0, n)
			lists(t, y, many(used)...)
			before := whole(m, x)
			for k := range used + 1 {
				removes(t, y, key(2*k), false)
				removes(t, y, key(2*k+1)+"x", false)
			}
			for _, none := range []string{"", "\x00", "0", "~", "\xff"} {
				removes(t, y, none, false)
			}
			if behind := whole(m, x); behind != before {
				t.Fatal("not as it was:", before, behind)
			}
		}
	}
}

// P20.3: a removed key makes room for another one, and may come again.
func TestRemoveMakesRoom(t *testing.T) {
	y, x := alone(t, 2, keyed("b", "d")...)
	for _, c := range []struct{ gone, there string }{{"b", "a"}, {"d", "e"}, {"a", "f"}, {"e", "e"}, {"f", ""}, {"", "x"}} {
		tells(t, y.Put("0", ""), api.ErrFull)
		removes(t, y, c.gone, true)
		puts(t, y, c.there, "v")
		gets(t, y, c.there, "v")
	}
	lists(t, y, has("e", "v"), has("x", "v"))
	removes(t, y, "x", true)
	removes(t, y, "e", true)
	hold(t, x, 0, nothing, nothing)
}

// P20.3: of entries that are side by side and have the same value, the cells are written all the same, for their keys are others; of the last one that cell alone.
func TestRemoveWrites(t *testing.T) {
	l := []entry{has("a", ""), has("b", ""), has("c", "")}
	for k, want := range [][]int{{0, 1, 2}, {1, 2}, {2}} {
		y, x := alone(t, 5, l...)
		removes(t, y, l[k].Key, true)
		wrote(t, x, want...)
	}
}
