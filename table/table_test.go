package table_test

import (
	"fmt"
	"slices"
	"strings"
	"testing"

	"ledgerstone/api"
	"ledgerstone/cell"
	"ledgerstone/table"
	"ledgerstone/tl2"
)

type (
	entry  = table.Entry
	memory = cell.Memory[entry]
	tx     = tl2.Tx[entry]
)

// outsider is the owner of what is locked and published beside all transactions.
const outsider = 99

// nothing is what a cell holds that is not used.
var nothing entry

// has is an entry that is used.
func has(key, value string) entry {
	return entry{Used: true, Key: key, Value: value}
}

// keyed is entries of these keys, each with its place as value.
func keyed(keys ...string) []entry {
	var out []entry
	for i, key := range keys {
		out = append(out, has(key, fmt.Sprint(i)))
	}
	return out
}

// padded is l, and nothing behind it up to n.
func padded(n int, l ...entry) []entry {
	return append(slices.Clone(l), make([]entry, n-len(l))...)
}

// key is the k-th of keys that rise.
func key(k int) string {
	return fmt.Sprintf("%04d", k)
}

// many is the entries of n keys: the k-th ones from 1 on, each second one.
func many(n int) []entry {
	var out []entry
	for k := range n {
		out = append(out, has(key(2*k+1), key(k)))
	}
	return out
}

// tells is an error that is to be want.
func tells(t *testing.T, got, want api.Errno, what ...any) {
	t.Helper()
	if got != want {
		t.Fatal("told", got, "wanted", want, what)
	}
}

// done is calls that are to tell OK.
func done(t *testing.T, l ...api.Errno) {
	t.Helper()
	for i, err := range l {
		tells(t, err, api.OK, "call", i)
	}
}

// empty is a memory of n cells.
func empty(t *testing.T, n int) *memory {
	t.Helper()
	m, err := cell.New[entry](n)
	if m == nil || err != api.OK {
		t.Fatal("cell.New", n, err)
	}
	return m
}

// filled is a memory of n cells, of which those from base on hold l.
func filled(t *testing.T, n, base int, l ...entry) *memory {
	t.Helper()
	m := empty(t, n)
	for i, e := range l {
		done(t, m.Fill(base+i, e))
	}
	return m
}

// begun is a transaction over m.
func begun(t *testing.T, m *memory, owner int) *tx {
	t.Helper()
	x, err := tl2.Begin(m, owner)
	if x == nil || err != api.OK {
		t.Fatal("Begin", err)
	}
	return x
}

// of is a table.
func of(t *testing.T, x *tx, base, n int) *table.Table {
	t.Helper()
	y, err := table.Of(x, base, n)
	if y == nil || err != api.OK {
		t.Fatal("Of", base, n, y, err)
	}
	return y
}

// alone is a table of all cells of a memory of its own, which hold l, and its transaction.
func alone(t *testing.T, n int, l ...entry) (*table.Table, *tx) {
	t.Helper()
	x := begun(t, filled(t, n, 0, l...), 1)
	return of(t, x, 0, n), x
}

// publishes has cell i hold e, from a version of its own on.
func publishes(t *testing.T, m *memory, i int, e entry) {
	t.Helper()
	version, err := m.Advance()
	done(t, err, m.Lock(i, outsider), m.Publish(i, outsider, e, version))
}

// commits has x be done.
func commits(t *testing.T, x *tx) {
	t.Helper()
	for x.Status() != tl2.Done {
		if status, err := x.Step(); err != api.OK {
			t.Fatal("Step", status, err)
		}
	}
}

// puts has y take a value of a key.
func puts(t *testing.T, y *table.Table, key, value string) {
	t.Helper()
	tells(t, y.Put(key, value), api.OK, "Put", key, value)
}

// removes is what Remove is to tell.
func removes(t *testing.T, y *table.Table, key string, want bool) {
	t.Helper()
	if got, err := y.Remove(key); got != want || err != api.OK {
		t.Fatal("Remove", key, "told", got, err, "wanted", want)
	}
}

// gets is a value that Get is to tell.
func gets(t *testing.T, y *table.Table, key, want string) {
	t.Helper()
	if got, ok, err := y.Get(key); got != want || !ok || err != api.OK {
		t.Fatal("Get", key, "told", got, ok, err, "wanted", want)
	}
}

// lacks is a key that Get is not to find.
func lacks(t *testing.T, y *table.Table, keys ...string) {
	t.Helper()
	for _, key := range keys {
		if got, ok, err := y.Get(key); got != "" || ok || err != api.OK {
			t.Fatal("Get", key, "told", got, ok, err, "wanted none")
		}
	}
}

// lists is what List is to tell.
func lists(t *testing.T, y *table.Table, want ...entry) {
	t.Helper()
	if got, err := y.List(); !slices.Equal(got, want) || err != api.OK {
		t.Fatal("List told", got, err, "wanted", want)
	}
}

// next is an entry that Next is to tell.
func next(t *testing.T, y *table.Table, key string, want entry) {
	t.Helper()
	if got, ok, err := y.Next(key); got != want || !ok || err != api.OK {
		t.Fatal("Next", key, "told", got, ok, err, "wanted", want)
	}
}

// noNext is keys above which Next is to find none.
func noNext(t *testing.T, y *table.Table, keys ...string) {
	t.Helper()
	for _, key := range keys {
		if got, ok, err := y.Next(key); got != nothing || ok || err != api.OK {
			t.Fatal("Next", key, "told", got, ok, err, "wanted none")
		}
	}
}

// refuses has each call of y err so, with nothing beside it.
func refuses(t *testing.T, y *table.Table, want api.Errno, what ...any) {
	t.Helper()
	for _, key := range []string{"", "a", "b", "z"} {
		if got, ok, err := y.Get(key); got != "" || ok || err != want {
			t.Fatal("Get", key, "told", got, ok, err, "wanted", want, what)
		}
		if got, ok, err := y.Next(key); got != nothing || ok || err != want {
			t.Fatal("Next", key, "told", got, ok, err, "wanted", want, what)
		}
		if ok, err := y.Remove(key); ok || err != want {
			t.Fatal("Remove", key, "told", ok, err, "wanted", want, what)
		}
		tells(t, y.Put(key, "v"), want, "Put", key, what)
	}
	if got, err := y.List(); len(got) != 0 || err != want {
		t.Fatal("List told", got, err, "wanted", want, what)
	}
}

// hold is what x is to read from base on.
func hold(t *testing.T, x *tx, base int, want ...entry) {
	t.Helper()
	for i, e := range want {
		if got, err := x.Read(base + i); got != e || err != api.OK {
			t.Fatal("cell", base+i, "holds", got, err, "wanted", e)
		}
	}
}

// wrote is the cells that x is to have written.
func wrote(t *testing.T, x *tx, want ...int) {
	t.Helper()
	if got := x.Writes(); !slices.Equal(got, want) {
		t.Fatal("written is", got, "wanted", want)
	}
}

// hasRead is the cells that x is to have read.
func hasRead(t *testing.T, x *tx, want ...int) {
	t.Helper()
	if got := x.Reads(); !slices.Equal(got, want) {
		t.Fatal("read is", got, "wanted", want)
	}
}

// upTo is the numbers from a to b.
func upTo(a, b int) []int {
	var out []int
	for ; a <= b; a++ {
		out = append(out, a)
	}
	return out
}

// whole is all that transactions and their memory tell.
func whole(m *memory, l ...*tx) string {
	var out strings.Builder
	fmt.Fprintln(&out, m.Clock())
	for i := range m.Size() {
		v, version, owner, _ := m.Load(i)
		fmt.Fprint(&out, v, version, owner, ";")
	}
	for _, x := range l {
		fmt.Fprintln(&out, x.Status(), x.Version(), x.Claimed(), x.Depth())
		for _, i := range x.Reads() {
			version, _ := x.Seen(i)
			fmt.Fprint(&out, "r", i, ":", version, ";")
		}
		for _, i := range x.Writes() {
			v, _ := x.Value(i)
			fmt.Fprint(&out, "w", i, ":", v, ";")
		}
	}
	return out.String()
}

// All numbers of the chapter's examples.
func TestExamples(t *testing.T) {
	m := empty(t, 3)
	x := begun(t, m, 1)
	y := of(t, x, 1, 2)
	puts(t, y, "b", "1")
	puts(t, y, "a", "2")
	hold(t, x, 1, has("a", "2"), has("b", "1"))
	tells(t, y.Put("c", "3"), api.ErrFull)
	puts(t, y, "b", "4")
	next(t, y, "a", has("b", "4"))
	removes(t, y, "a", true)
	lacks(t, y, "a")
	hold(t, x, 1, has("b", "4"), nothing)
	hold(t, x, 0, nothing)
	wrote(t, x, 1, 2)

	x = begun(t, empty(t, 1024), 1)
	if y, err := table.Of(x, 0, 201); y != nil || err != api.ErrArg {
		t.Fatal(y, err)
	}
}
