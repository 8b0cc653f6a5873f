package table_test

import (
	"fmt"
	"testing"

	"ledgerstone/api"
	"ledgerstone/tl2"
)

// P20.2: Get, Next and List of a table in which nothing is.
func TestEmptyTable(t *testing.T) {
	for _, n := range []int{1, 2, 3, 100, 199, 200} {
		y, x := alone(t, n)
		lists(t, y)
		lacks(t, y, "", "\x00", "a", "b", "\xff")
		noNext(t, y, "", "\x00", "a", "b", "\xff")
		wrote(t, x)
	}
}

// P20.2: keys below, between, above and equal to those that are there, in tables of all sizes that are empty, filled in part, and full.
func TestEachPlace(t *testing.T) {
	for _, n := range []int{1, 2, 3, 4, 7, 100, 199, 200} {
		for _, used := range []int{0, 1, 2, n / 2, n - 1, n} {
			if used > n {
				continue
			}
			l := many(used)
			y, x := alone(t, n, l...)
			lists(t, y, l...)
			for k := range used {
				gets(t, y, key(2*k+1), key(k))
				lacks(t, y, key(2*k), key(2*k+2), key(2*k+1)+" ", key(2*k + 1)[:3])
				next(t, y, key(2*k), l[k])
				next(t, y, key(2*k)+"x", l[k])
				next(t, y, key(2*k + 1)[:3], l[k-k%5])
				if k+1 < used {
					next(t, y, key(2*k+1), l[k+1])
					next(t, y, key(2*k+1)+"\x00", l[k+1])
				}
			}
			if used > 0 {
				next(t, y, "", l[0])
				noNext(t, y, key(2*used-1))
			}
			noNext(t, y, key(2*used), key(2*used+1), "~", key(2*used)+"\xff")
			lacks(t, y, "", key(2*used), key(2*used+1), "~")
			wrote(t, x)
		}
	}
}

// P20.2: the empty key is a key: alone, with others, there and not there; that a cell is not used is not taken for it.
func TestEmptyKey(t *testing.T) {
	y, _ := alone(t, 3, has("", "v"))
	gets(t, y, "", "v")
	noNext(t, y, "")
	lists(t, y, has("", "v"))

	y, _ = alone(t, 3, has("", ""))
	gets(t, y, "", "")
	noNext(t, y, "", "a")
	lists(t, y, has("", ""))

	y, _ = alone(t, 3, has("", "v"), has("\x00", "w"))
	gets(t, y, "", "v")
	gets(t, y, "\x00", "w")
	next(t, y, "", has("\x00", "w"))

	y, _ = alone(t, 3, has("a", "v"))
	lacks(t, y, "")
	next(t, y, "", has("a", "v"))

	y, _ = alone(t, 2, has("a", "v"), has("b", "w"))
	lacks(t, y, "")
	next(t, y, "", has("a", "v"))
}

// P20.2: a value may be empty: the key is there all the same.
func TestEmptyValue(t *testing.T) {
	y, _ := alone(t, 3, has("a", ""), has("b", ""))
	gets(t, y, "a", "")
	gets(t, y, "b", "")
	lacks(t, y, "", "c", "ab")
	next(t, y, "", has("a", ""))
	next(t, y, "a", has("b", ""))
	noNext(t, y, "b")
}

// oddKeys are keys that rise as bytes do: such as begin one another, upper and lower case, bytes that are no text.
func oddKeys() []string {
	return []string{"", "\x00", "\x00\x00", "\x00a", "\x01", "10", "9", "A", "B", "a", "a\x00", "a\x00b", "aa", "aaa", "ab", "b", "ba", "z", "\x7f", "\x80", "\xc3", "é", "é\x00", "\uffff", "\U0001f600", "\xff", "\xff\xff"}
}

// P20.2, R7: keys are bytes: of each two of these keys.
func TestOddKeys(t *testing.T) {
	keys := oddKeys()
	y, _ := alone(t, len(keys), keyed(keys...)...)
	lists(t, y, keyed(keys...)...)
	for k, key := range keys {
		gets(t, y, key, fmt.Sprint(k))
		lacks(t, y, key+"\x00\x00\x00")
		if k+1 < len(keys) {
			next(t, y, key, has(keys[k+1], fmt.Sprint(k+1)))
		} else {
			noNext(t, y, key)
		}
	}
	for i, a := range keys {
		for j, b := range keys {
			y, _ := alone(t, 2, has(a, "v"))
			if i == j {
				gets(t, y, b, "v")
				noNext(t, y, b)
				continue
			}
			lacks(t, y, b)
			if i > j {
				next(t, y, b, has(a, "v"))
			} else {
				noNext(t, y, b)
			}
			puts(t, y, b, "w")
			first, second := has(a, "v"), has(b, "w")
			if i > j {
				first, second = second, first
			}
			lists(t, y, first, second)
			next(t, y, first.Key, second)
		}
	}
}

// P20.2: keys and values of many bytes.
func TestLongKeys(t *testing.T) {
	long := string(make([]byte, 1<<20))
	y, _ := alone(t, 4)
	puts(t, y, long+"b", long)
	puts(t, y, long+"a", long+"v")
	puts(t, y, long, "w")
	gets(t, y, long, "w")
	gets(t, y, long+"a", long+"v")
	gets(t, y, long+"b", long)
	next(t, y, long+"a", has(long+"b", long))
	lacks(t, y, long+"c", long[1:], long+"\x00")
	removes(t, y, long+"a", true)
	lists(t, y, has(long, "w"), has(long+"b", long))
}

// P20.2: asking changes nothing but that the cells are read: again, it is told again.
func TestAskingAgain(t *testing.T) {
	m := filled(t, 5, 0, keyed("a", "b", "c")...)
	x := begun(t, m, 1)
	y := of(t, x, 0, 5)
	lists(t, y, keyed("a", "b", "c")...)
	before := whole(m, x)
	for range 3 {
		gets(t, y, "b", "1")
		lacks(t, y, "d")
		next(t, y, "a", has("b", "1"))
		noNext(t, y, "c")
		lists(t, y, keyed("a", "b", "c")...)
		removes(t, y, "aa", false)
		puts(t, y, "c", "2")
	}
	if behind := whole(m, x); behind != before || x.Status() != tl2.Open {
		t.Fatal("not as it was:", before, behind)
	}
}

// P20.2: what is told is of the transaction's beginning, whatever others have begun since; one that has begun behind it is told anew.
func TestOfOneMoment(t *testing.T) {
	m := filled(t, 3, 0, keyed("a")...)
	early, writer := begun(t, m, 1), begun(t, m, 2)
	puts(t, of(t, writer, 0, 3), "b", "1")
	writer.Step()
	for range 2 { // a lock, the clock
		late := begun(t, m, 3)
		tells(t, of(t, late, 0, 3).Put("c", "1"), api.ErrStale)
		writer.Step()
	}
	commits(t, writer)
	tells(t, of(t, early, 0, 3).Put("c", "1"), api.ErrStale)
	lists(t, of(t, begun(t, m, 3), 0, 3), keyed("a", "b")...)
}
