package table_test

import (
	"fmt"
	"maps"
	"math"
	"math/rand"
	"slices"
	"strings"
	"testing"

	"ledgerstone/api"
	"ledgerstone/table"
	"ledgerstone/tl2"
)

// ordered is what a table is asked.
type ordered interface {
	Get(key string) (string, bool, api.Errno)
	Put(key, value string) api.Errno
	Remove(key string) (bool, api.Errno)
	List() ([]entry, api.Errno)
	Next(key string) (entry, bool, api.Errno)
}

// model is a table as the chapter's words have it: it makes a map of what the cells hold, and a right list of a map.
type model struct {
	x     *tx
	cells []int
}

func modelOf(x *tx, base, n int) (*model, api.Errno) {
	if x == nil || x.Status() == 0 {
		return nil, api.ErrNil
	}
	if n <= 0 || n > 200 || base < 0 || base >= x.Cells() || x.Cells()-base < n {
		return nil, api.ErrArg
	}
	return &model{x, upTo(base, base+n-1)}, api.OK
}

// look is what the cells hold, and the values of the keys.
func (m *model) look() ([]entry, map[string]string, api.Errno) {
	if m == nil {
		return nil, nil, api.ErrNil
	}
	var all []entry
	for _, i := range m.cells {
		e, err := m.x.Read(i)
		if err != api.OK {
			return nil, nil, err
		}
		all = append(all, e)
	}
	if !isRight(all) {
		return nil, nil, api.ErrState
	}
	values := map[string]string{}
	for _, e := range all {
		if e.Used {
			values[e.Key] = e.Value
		}
	}
	return all, values, api.OK
}

// become has the cells, which hold all, hold the right list of values.
func (m *model) become(all []entry, values map[string]string) api.Errno {
	want := make([]entry, len(all))
	for k, key := range slices.Sorted(maps.Keys(values)) {
		want[k] = has(key, values[key])
	}
	for k, i := range m.cells {
		if want[k] != all[k] {
			if err := m.x.Write(i, want[k]); err != api.OK {
				return err
			}
		}
	}
	return api.OK
}

func (m *model) Get(key string) (string, bool, api.Errno) {
	_, values, err := m.look()
	v, ok := values[key]
	return v, ok, err
}

func (m *model) Put(key, value string) api.Errno {
	all, values, err := m.look()
	if err != api.OK {
		return err
	}
	if _, ok := values[key]; !ok && len(values) == len(all) {
		return api.ErrFull
	}
	values[key] = value
	return m.become(all, values)
}

func (m *model) Remove(key string) (bool, api.Errno) {
	all, values, err := m.look()
	if _, ok := values[key]; !ok || err != api.OK {
		return false, err
	}
	delete(values, key)
	err = m.become(all, values)
	return err == api.OK, err
}

func (m *model) List() ([]entry, api.Errno) {
	_, values, err := m.look()
	var out []entry
	for _, key := range slices.Sorted(maps.Keys(values)) {
		out = append(out, has(key, values[key]))
	}
	return out, err
}

func (m *model) Next(key string) (entry, bool, api.Errno) {
	l, err := m.List()
	l = slices.DeleteFunc(l, func(e entry) bool { return e.Key <= key })
	if len(l) == 0 {
		return nothing, false, err
	}
	return l[0], true, err
}

// world is a memory, transactions over it, and tables of theirs, real ones or models.
type world struct {
	t      *testing.T
	m      *memory
	xs     []*tx
	of     func(x *tx, base, n int) (ordered, api.Errno)
	tables []ordered
}

// pair is a world with real tables, and one with models.
func pair(t *testing.T, m func() *memory) [2]*world {
	t.Helper()
	return [2]*world{
		{t: t, m: m(), of: func(x *tx, base, n int) (ordered, api.Errno) {
			y, err := table.Of(x, base, n)
			if (y == nil) != (err != api.OK) {
				t.Fatal(y, err)
			}
			return y, err
		}},
		{t: t, m: m(), of: func(x *tx, base, n int) (ordered, api.Errno) { return modelOf(x, base, n) }},
	}
}

// deed is something that is done in a world, and what it tells.
type deed struct {
	name string
	does func(w *world) string
	args []string
}

// asks is a call of table k.
func asks(k int, name string, args ...string) deed {
	does := func(w *world) string {
		switch y := w.tables[k]; name {
		case "get":
			v, ok, err := y.Get(args[0])
			return fmt.Sprintf("%q %v %d", v, ok, err)
		case "put":
			return fmt.Sprintf("%d", y.Put(args[0], args[1]))
		case "remove":
			ok, err := y.Remove(args[0])
			return fmt.Sprintf("%v %d", ok, err)
		case "next":
			e, ok, err := y.Next(args[0])
			return fmt.Sprintf("%+v %v %d", e, ok, err)
		default:
			l, err := y.List()
			return fmt.Sprintf("%+v %d", l, err)
		}
	}
	return deed{name, does, append(args, fmt.Sprint("of table ", k))}
}

// alike has a deed done in both worlds, and told alike; so is all that they tell behind it.
func alike(t *testing.T, p [2]*world, d deed, deep bool, what ...any) string {
	t.Helper()
	got, want := d.does(p[0]), d.does(p[1])
	if got != want {
		t.Fatalf("%s %q told %s wanted %s %v", d.name, d.args, got, want, what)
	}
	if deep {
		if got, want := whole(p[0].m, p[0].xs...), whole(p[1].m, p[1].xs...); got != want {
			t.Fatalf("behind %s %q\n%s\nwanted\n%s\n%v", d.name, d.args, got, want, what)
		}
	}
	return got
}

// chance is what worlds by chance are made of.
type chance struct {
	*rand.Rand
	keys   []string
	cells  int
	spread int // how many cells a table may have
	calls  int // how many calls of tables there are for each other deed
}

func (c chance) key() string   { return c.keys[c.Intn(len(c.keys))] }
func (c chance) value() string { return []string{"", "1", "2"}[c.Intn(3)] }

// span is where a table lies: mostly in cells that are, now and then not. Most begin with one of few cells, so that tables meet what others have left.
func (c chance) span() (int, int) {
	if c.Intn(30) == 0 {
		wrong := []int{math.MinInt, -1, 0, 1, 200, 201, c.cells, c.cells + 1, math.MaxInt}
		return wrong[c.Intn(len(wrong))], wrong[c.Intn(len(wrong))]
	}
	n := 1 + c.Intn(min(c.spread, c.cells, 200))
	return c.Intn(c.cells-n+1) / 3 * 3 % (c.cells - n + 1), n
}

// call is a call of a table by chance.
func (c chance) call(tables int) deed {
	k := c.Intn(tables)
	switch n := c.Intn(20); {
	case n < 9:
		return asks(k, "put", c.key(), c.value())
	case n < 13:
		return asks(k, "remove", c.key())
	case n < 15:
		return asks(k, "get", c.key())
	case n < 17:
		return asks(k, "next", c.key())
	}
	return asks(k, "list")
}

// deed is something by chance: mostly a call of a table, at times something with a transaction, or beside all of them.
func (c chance) deed(w *world) deed {
	x, k, i := c.Intn(len(w.xs)), c.Intn(len(w.tables)), c.Intn(c.cells)
	if s := w.xs[x].Status(); (s == tl2.Done || s == tl2.Failed) && c.Intn(2) == 0 {
		return c.begin(len(w.xs), len(w.tables), x)
	}
	if c.Intn(c.calls+1) != 0 {
		return c.call(len(w.tables))
	}
	e := []entry{nothing, has(c.key(), c.value()), {Key: c.key()}, nothing, nothing}[c.Intn(5)]
	base, n := c.span()
	names := []string{"of", "of", "of", "of", "step", "step", "end", "end", "write", "mark", "undo", "keep", "abort", "lock", "unlock", "unlock", "publish"}
	name := names[c.Intn(len(names))]
	does := func(w *world) string {
		if name == "of" {
			return w.make(x, k, base, n)
		}
		return fmt.Sprint(w.do(name, w.xs[x], i, e))
	}
	return deed{name, does, []string{fmt.Sprint(x, k, base, n, i, e)}}
}

// begin has transaction x be a new one, and the tables whose numbers are its own be tables of it.
func (c chance) begin(xs, tables, x int) deed {
	type span struct{ k, base, n int }
	var spans []span
	for k := x; k < tables; k += xs {
		base, n := c.span()
		spans = append(spans, span{k, base, n})
	}
	does := func(w *world) string {
		out := ""
		w.xs[x] = begun(w.t, w.m, x+1)
		for _, s := range spans {
			out += w.make(x, s.k, s.base, s.n)
		}
		return out
	}
	return deed{"begin", does, []string{fmt.Sprint(x, spans)}}
}

// make has table k be one of transaction x, if there is such a one.
func (w *world) make(x, k, base, n int) string {
	y, err := w.of(w.xs[x], base, n)
	if err == api.OK {
		w.tables[k] = y
	}
	return fmt.Sprintf("%d", err)
}

// do does what is done with a transaction, or beside all of them.
func (w *world) do(name string, x *tx, i int, e entry) api.Errno {
	switch name {
	case "step":
		_, err := x.Step()
		return err
	case "end":
		for range 1000 {
			x.Step()
		}
	case "write":
		return x.Write(i, e)
	case "mark":
		return x.Mark()
	case "undo":
		return x.Undo()
	case "keep":
		return x.Keep()
	case "abort":
		return x.Abort()
	case "lock":
		return w.m.Lock(i, outsider)
	case "unlock":
		for i := range w.m.Size() {
			w.m.Unlock(i, outsider)
		}
	case "publish":
		if w.m.Lock(i, outsider) == api.OK {
			version, _ := w.m.Advance()
			return w.m.Publish(i, outsider, e, version)
		}
	}
	return api.OK
}

// runs has so many deeds by chance be done in a pair of worlds; each told how often, by its name and the error.
func (c chance) runs(t *testing.T, xs, tables, deeds, deep int, tally map[string]int) {
	t.Helper()
	p := pair(t, func() *memory { return empty(t, c.cells) })
	for _, w := range p {
		for x := range xs {
			w.xs = append(w.xs, begun(t, w.m, x+1))
		}
		for k := range tables {
			w.tables = append(w.tables, nil)
			w.make(k%xs, k, 0, 1)
		}
	}
	var log []string
	for at := range deeds {
		d := c.deed(p[0])
		told := alike(t, p, d, at%deep == 0, log)
		log = append(log[max(0, len(log)-15):], fmt.Sprint(d.name, d.args, told))
		tally[d.name+told[strings.LastIndex(" "+told, " "):]]++
	}
}

// tallied is whether each call has told each of these errors so often.
func tallied(t *testing.T, tally map[string]int, least int, errs ...int) {
	t.Helper()
	for _, name := range []string{"get", "put", "remove", "next", "list"} {
		for _, err := range errs {
			if n := tally[name+fmt.Sprint(err)]; n < least {
				t.Fatal("the test itself", name, err, n, tally)
			}
		}
	}
}

// P20.1 to P20.3: many calls by chance against the model: tables beside and over one another, in transactions in any status, with scopes, over cells that others lock and publish.
func TestCallsByChance(t *testing.T) {
	t.Parallel()
	tally := map[string]int{}
	for seed := range int64(150) {
		c := chance{rand.New(rand.NewSource(seed)), []string{"", "a", "ab", "b", "\x00", "\xff"}, []int{1, 2, 5, 12, 40}[seed%5], 6, 3}
		if seed%3 == 0 {
			c.keys, c.spread = c.keys[:3], 3
		}
		xs := 1 + c.Intn(3)
		c.runs(t, xs, xs+c.Intn(3), 1200, 1, tally)
	}
	tallied(t, tally, 300, 0, 131, 132, 241)
	if tally["put5"] < 1000 || tally["of2"] < 300 {
		t.Fatal("the test itself", tally)
	}
}

// P20.1 to P20.3: many calls by chance against the model: tables of many cells, in transactions that read and write as much as they may.
func TestManyCellsByChance(t *testing.T) {
	t.Parallel()
	tally := map[string]int{}
	for seed := range int64(24) {
		c := chance{rand.New(rand.NewSource(seed)), nil, 400 + 624*int(seed%2), 200, 30}
		for k := range 300 {
			c.keys = append(c.keys, key(k))
		}
		c.runs(t, 1, 6, 5000, 50, tally)
	}
	tallied(t, tally, 100, 0, 3, 132)
	if tally["put5"] < 100 {
		t.Fatal("the test itself", tally)
	}
}
