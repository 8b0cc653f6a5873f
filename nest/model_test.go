package nest_test

import (
	"fmt"
	"maps"
	"slices"
	"testing"

	"ledgerstone/api"
	"ledgerstone/nest"
	"ledgerstone/tl2"
)

// face is what a transaction and the model are both asked.
type face interface {
	Read(i int) (int, api.Errno)
	Write(i, v int) api.Errno
	Mark() api.Errno
	Keep() api.Errno
	Undo() api.Errno
	Step() (tl2.Status, api.Errno)
	Abort() api.Errno
	Status() tl2.Status
	Depth() int
	Reads() []int
	Writes() []int
	Value(i int) (int, bool)
	Scope(b body) api.Errno
	All(l ...body) (int, api.Errno)
	First(l ...body) (int, api.Errno)
}

// real is a transaction with the calls of nest.
type real struct{ *tl2.Tx[int] }

func (r real) Scope(b body) api.Errno           { return nest.Scope(r.Tx, b) }
func (r real) All(l ...body) (int, api.Errno)   { return nest.All(r.Tx, l...) }
func (r real) First(l ...body) (int, api.Errno) { return nest.First(r.Tx, l...) }

// cells is how many cells there are for real and model; the last one is another one's.
const cells = 4

func newReal(t *testing.T) face {
	t.Helper()
	m := filled(t, 10, 11, 12, 13)
	done(t, m.Lock(cells-1, 9))
	return real{begun(t, m)}
}

// model is a transaction whose writes are a map that is never changed: a scope keeps the one that was there at its Mark.
type model struct {
	status tl2.Status
	writes map[int]int
	marks  []map[int]int
	reads  map[int]bool
	steps  int // of its end, done
}

func newModel() face {
	return &model{status: tl2.Open, writes: map[int]int{}, reads: map[int]bool{}}
}

func (m *model) Status() tl2.Status { return m.status }
func (m *model) Depth() int         { return len(m.marks) }
func (m *model) Reads() []int       { return slices.Sorted(maps.Keys(m.reads)) }
func (m *model) Writes() []int      { return slices.Sorted(maps.Keys(m.writes)) }

func (m *model) Value(i int) (int, bool) {
	v, ok := m.writes[i]
	return v, ok
}

func (m *model) Read(i int) (int, api.Errno) {
	if m.status != tl2.Open {
		return 0, api.ErrOver
	}
	if v, ok := m.writes[i]; ok {
		return v, api.OK
	}
	switch {
	case i < 0 || i >= cells:
		return 0, api.ErrArg
	case i == cells-1:
		m.status = tl2.Failed
		return 0, api.ErrStale
	}
	m.reads[i] = true
	return 10 + i, api.OK
}

func (m *model) Write(i, v int) api.Errno {
	switch {
	case m.status != tl2.Open:
		return api.ErrOver
	case i < 0 || i >= cells:
		return api.ErrArg
	}
	m.writes = maps.Clone(m.writes)
	m.writes[i] = v
	return api.OK
}

func (m *model) Mark() api.Errno {
	switch {
	case m.status != tl2.Open:
		return api.ErrOver
	case len(m.marks) == 8:
		return api.ErrLong
	}
	m.marks = append(m.marks, m.writes)
	return api.OK
}

func (m *model) Keep() api.Errno {
	switch {
	case m.status != tl2.Open:
		return api.ErrOver
	case len(m.marks) == 0:
		return api.ErrScope
	}
	m.marks = m.marks[:len(m.marks)-1]
	return api.OK
}

func (m *model) Undo() api.Errno {
	writes := m.writes
	if len(m.marks) > 0 {
		writes = m.marks[len(m.marks)-1]
	}
	err := m.Keep()
	if err == api.OK {
		m.writes = writes
	}
	return err
}

// Step: a lock for each cell that is written, the clock, a look at each that was read, a cell published; one step, if nothing is written.
func (m *model) Step() (tl2.Status, api.Errno) {
	if m.status == tl2.Done || m.status == tl2.Failed {
		return m.status, api.ErrOver
	}
	m.status = tl2.Ending
	m.steps++
	last := 2*len(m.writes) + 1
	if len(m.writes) > 0 {
		last += len(m.reads)
	}
	switch {
	case m.steps == len(m.writes) && m.Writes()[m.steps-1] == cells-1:
		m.status = tl2.Failed
		return m.status, api.ErrBusy
	case m.steps == last:
		m.status = tl2.Done
	}
	return m.status, api.OK
}

func (m *model) Abort() api.Errno {
	isPublished := m.steps > len(m.writes)+1+len(m.reads)
	if m.status == tl2.Done || m.status == tl2.Failed || isPublished {
		return api.ErrOver
	}
	m.status = tl2.Failed
	return api.OK
}

// Scope is as P17.1 says; what is undone is what the writes were at its Mark, or at the one that stands in its place.
func (m *model) Scope(b body) api.Errno {
	if b == nil {
		return api.ErrNil
	}
	if err := m.Mark(); err != api.OK {
		return err
	}
	behind := len(m.marks)
	told := b()
	isOpen, isThere := m.status == tl2.Open, len(m.marks) >= behind
	if isOpen && isThere {
		if told != api.OK {
			m.writes = m.marks[behind-1]
		}
		m.marks = m.marks[:behind-1]
	}
	switch {
	case told != api.OK:
		return told
	case !isOpen:
		return api.ErrOver
	case !isThere:
		return api.ErrScope
	}
	return api.OK
}

// All is as P17.2 says.
func (m *model) All(l ...body) (int, api.Errno) {
	var told []api.Errno
	whole := m.Scope(func() api.Errno {
		for len(told) < len(l) {
			told = append(told, m.Scope(l[len(told)]))
			if err := told[len(told)-1]; err != api.OK {
				return err
			}
		}
		return api.OK
	})
	n := len(told)
	if n > 0 && told[n-1] != api.OK {
		n--
	}
	return n, whole
}

// First is as P17.2 says.
func (m *model) First(l ...body) (int, api.Errno) {
	err := api.ErrArg
	for place := 0; place < len(l); place++ {
		err = m.Scope(l[place])
		if err == api.OK || m.status != tl2.Open {
			return place, err
		}
	}
	return len(l), err
}

// told is all that is told of x.
func told(x face) string {
	out := fmt.Sprint(x.Status(), x.Depth(), x.Reads(), x.Writes())
	for i := range cells {
		v, ok := x.Value(i)
		out += fmt.Sprint(" ", v, ok)
	}
	return out
}

// deed is something that a body does.
type deed struct {
	name        string
	cell, value int
	plans       []*plan
}

// plan is what a body does, and tells; one that is nil is a nil body.
type plan struct {
	deeds   []deed
	tells   api.Errno
	handsOn bool // it ends with the first deed that tells an error, and tells that
}

// does has x do d: what came of it, and the error.
func (d deed) does(x face, log *[]string) (string, api.Errno) {
	var l []body
	for _, p := range d.plans {
		l = append(l, p.of(x, log))
	}
	n, err := 0, api.OK
	switch d.name {
	case "Read":
		n, err = x.Read(d.cell)
	case "Write":
		err = x.Write(d.cell, d.value)
	case "Mark":
		err = x.Mark()
	case "Keep":
		err = x.Keep()
	case "Undo":
		err = x.Undo()
	case "Step":
		var status tl2.Status
		status, err = x.Step()
		n = int(status)
	case "Abort":
		err = x.Abort()
	case "Scope":
		err = x.Scope(l[0])
	case "All":
		n, err = x.All(l...)
	case "First":
		n, err = x.First(l...)
	}
	return fmt.Sprint(d.name, " ", n, int(err)), err
}

// of is the body that p tells of, done with x; what each deed told, and what x tells behind it, goes to log.
func (p *plan) of(x face, log *[]string) body {
	if p == nil {
		return nil
	}
	return func() api.Errno {
		*log = append(*log, "in: "+told(x))
		for _, d := range p.deeds {
			what, err := d.does(x, log)
			*log = append(*log, what+": "+told(x))
			if p.handsOn && err != api.OK {
				return err
			}
		}
		return p.tells
	}
}

func (p *plan) String() string {
	if p == nil {
		return "nil"
	}
	return fmt.Sprint("{", p.deeds, " tells ", int(p.tells), " ", p.handsOn, "}")
}

// runs has x do all deeds, and then undo its scopes and come to its end; all that was told, line by line.
func runs(x face, deeds []deed) []string {
	var log []string
	(&plan{deeds: deeds}).of(x, &log)()
	for x.Undo() == api.OK {
		log = append(log, "undone: "+told(x))
	}
	for {
		status, err := x.Step()
		log = append(log, fmt.Sprint("end: ", status, int(err)))
		if status != tl2.Ending {
			return log
		}
	}
}

// agrees holds what these deeds tell against the model; it tells that.
func agrees(t *testing.T, deeds []deed) []string {
	t.Helper()
	got, want := runs(newReal(t), deeds), runs(newModel(), deeds)
	if !slices.Equal(got, want) {
		for k := range got {
			if k >= len(want) || got[k] != want[k] {
				t.Fatal(deeds, "\ntold  ", got[k], "\nwanted", want[k:min(k+1, len(want))], "\nbehind", got[:k])
			}
		}
		t.Fatal(deeds, len(got), len(want))
	}
	return got
}
