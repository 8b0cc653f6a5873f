package wait_test

import (
	"fmt"
	"maps"
	"slices"
	"testing"

	"ledgerstone/api"
	"ledgerstone/nest"
	"ledgerstone/tl2"
	"ledgerstone/wait"
)

// face is what a transaction and the model of it are both asked.
type face interface {
	Read(i int) (int, api.Errno)
	Write(i, v int) api.Errno
	Mark() api.Errno
	Keep() api.Errno
	Undo() api.Errno
	Step() (tl2.Status, api.Errno)
	Abort() api.Errno
	Status() tl2.Status
	Depth() int
	Reads() []int
	Writes() []int
	Value(i int) (int, bool)
	Scope(b body) api.Errno
	OrElse(one, other body) api.Errno
}

// realTx is a transaction with the calls of nest and wait.
type realTx struct{ *tl2.Tx[int] }

func (r realTx) Scope(b body) api.Errno           { return nest.Scope(r.Tx, b) }
func (r realTx) OrElse(one, other body) api.Errno { return wait.OrElse(r.Tx, one, other) }

// cells is how many cells there are for a transaction and its model; the last one is another one's.
const cells = 4

func newRealTx(t *testing.T) face {
	t.Helper()
	m := filled(t, 10, 11, 12, 13)
	done(t, m.Lock(cells-1, outsider))
	return realTx{begun(t, m)}
}

// modelTx is a transaction whose writes are a map that is never changed: a scope keeps the one that was there at its Mark.
type modelTx struct {
	status tl2.Status
	writes map[int]int
	marks  []map[int]int
	reads  map[int]bool
	steps  int // of its end, done
}

func newModelTx() face {
	return &modelTx{status: tl2.Open, writes: map[int]int{}, reads: map[int]bool{}}
}

func (m *modelTx) Status() tl2.Status { return m.status }
func (m *modelTx) Depth() int         { return len(m.marks) }
func (m *modelTx) Reads() []int       { return slices.Sorted(maps.Keys(m.reads)) }
func (m *modelTx) Writes() []int      { return slices.Sorted(maps.Keys(m.writes)) }

func (m *modelTx) Value(i int) (int, bool) {
	v, ok := m.writes[i]
	return v, ok
}

func (m *modelTx) Read(i int) (int, api.Errno) {
	v, isWritten := m.writes[i]
	switch {
	case m.status != tl2.Open:
		return 0, api.ErrOver
	case isWritten:
		return v, api.OK
	case i == cells-1:
		m.status = tl2.Failed
		return 0, api.ErrStale
	}
	m.reads[i] = true
	return 10 + i, api.OK
}

func (m *modelTx) Write(i, v int) api.Errno {
	if m.status != tl2.Open {
		return api.ErrOver
	}
	m.writes = maps.Clone(m.writes)
	m.writes[i] = v
	return api.OK
}

func (m *modelTx) Mark() api.Errno {
	switch {
	case m.status != tl2.Open:
		return api.ErrOver
	case len(m.marks) == 8:
		return api.ErrLong
	}
	m.marks = append(m.marks, m.writes)
	return api.OK
}

func (m *modelTx) Keep() api.Errno {
	switch {
	case m.status != tl2.Open:
		return api.ErrOver
	case len(m.marks) == 0:
		return api.ErrScope
	}
	m.marks = m.marks[:len(m.marks)-1]
	return api.OK
}

func (m *modelTx) Undo() api.Errno {
	writes := m.writes
	if len(m.marks) > 0 {
		writes = m.marks[len(m.marks)-1]
	}
	err := m.Keep()
	if err == api.OK {
		m.writes = writes
	}
	return err
}

// Step: a lock for each cell that is written, the clock, a look at each that was read, a cell published; one step, if nothing is written.
func (m *modelTx) Step() (tl2.Status, api.Errno) {
	if m.status == tl2.Done || m.status == tl2.Failed {
		return m.status, api.ErrOver
	}
	m.status = tl2.Ending
	m.steps++
	last := 2*len(m.writes) + 1
	if len(m.writes) > 0 {
		last += len(m.reads)
	}
	switch {
	case m.steps == len(m.writes) && m.Writes()[m.steps-1] == cells-1:
		m.status = tl2.Failed
		return m.status, api.ErrBusy
	case m.steps == last:
		m.status = tl2.Done
	}
	return m.status, api.OK
}

func (m *modelTx) Abort() api.Errno {
	isPublished := m.steps > len(m.writes)+1+len(m.reads)
	if m.status == tl2.Done || m.status == tl2.Failed || isPublished {
		return api.ErrOver
	}
	m.status = tl2.Failed
	return api.OK
}

// Scope is as layer 17 says.
func (m *modelTx) Scope(b body) api.Errno {
	if b == nil {
		return api.ErrNil
	}
	if err := m.Mark(); err != api.OK {
		return err
	}
	behind := len(m.marks)
	told := b()
	isOpen, isThere := m.status == tl2.Open, len(m.marks) >= behind
	if isOpen && isThere {
		if told != api.OK {
			m.writes = m.marks[behind-1]
		}
		m.marks = m.marks[:behind-1]
	}
	switch {
	case told != api.OK:
		return told
	case !isOpen:
		return api.ErrOver
	case !isThere:
		return api.ErrScope
	}
	return api.OK
}

// OrElse is as P18.3 says.
func (m *modelTx) OrElse(one, other body) api.Errno {
	for k, b := range []body{one, other} {
		if one == nil || other == nil {
			return api.ErrNil
		}
		told := m.Scope(b)
		if k == 1 || told != api.ErrWait || m.status != tl2.Open {
			return told
		}
	}
	return api.OK
}

// toldOf is all that is told of x.
func toldOf(x face) string {
	out := fmt.Sprint(x.Status(), x.Depth(), x.Reads(), x.Writes())
	for i := range cells {
		v, ok := x.Value(i)
		out += fmt.Sprint(" ", v, ok)
	}
	return out
}

// deed is something that a body does.
type deed struct {
	name        string
	cell, value int
	plans       []*plan
}

// plan is what a body does, and tells; one that is nil is a nil body.
type plan struct {
	deeds   []deed
	tells   api.Errno
	handsOn bool // it ends with the first deed that tells an error, and tells that
}

// does has x do d: what came of it, and the error.
func (d deed) does(x face, log *[]string) (string, api.Errno) {
	var l []body
	for _, p := range d.plans {
		l = append(l, p.of(x, log))
	}
	n, err := 0, api.OK
	switch d.name {
	case "Read":
		n, err = x.Read(d.cell)
	case "Write":
		err = x.Write(d.cell, d.value)
	case "Mark":
		err = x.Mark()
	case "Keep":
		err = x.Keep()
	case "Undo":
		err = x.Undo()
	case "Step":
		var status tl2.Status
		status, err = x.Step()
		n = int(status)
	case "Abort":
		err = x.Abort()
	case "Scope":
		err = x.Scope(l[0])
	case "OrElse":
		err = x.OrElse(l[0], l[1])
	}
	return fmt.Sprint(d.name, " ", n, " ", int(err)), err
}

// of is the body that p tells of, done with x; what each deed told, and what x tells behind it, goes to log.
func (p *plan) of(x face, log *[]string) body {
	if p == nil {
		return nil
	}
	return func() api.Errno {
		*log = append(*log, "in: "+toldOf(x))
		for _, d := range p.deeds {
			what, err := d.does(x, log)
			*log = append(*log, what+": "+toldOf(x))
			if p.handsOn && err != api.OK {
				return err
			}
		}
		return p.tells
	}
}

func (p *plan) String() string {
	if p == nil {
		return "nil"
	}
	return fmt.Sprint("{", p.deeds, " tells ", int(p.tells), " ", p.handsOn, "}")
}

// runs has x do all deeds, and then undo its scopes and come to its end; all that was told, line by line.
func runs(x face, deeds []deed) []string {
	var log []string
	(&plan{deeds: deeds}).of(x, &log)()
	for x.Undo() == api.OK {
		log = append(log, "undone: "+toldOf(x))
	}
	for {
		status, err := x.Step()
		log = append(log, fmt.Sprint("end: ", status, int(err)))
		if status != tl2.Ending {
			return log
		}
	}
}

// agrees holds what these deeds tell against the model; it tells that.
func agrees(t *testing.T, deeds []deed) []string {
	t.Helper()
	got, want := runs(newRealTx(t), deeds), runs(newModelTx(), deeds)
	if !slices.Equal(got, want) {
		t.Fatal(deeds, "\ntold  ", got, "\nwanted", want)
	}
	return got
}

// ahead is deeds that leave so many scopes open, with cell 0 written in each.
func ahead(depth int) []deed {
	out := []deed{{name: "Write", cell: 0, value: 20}}
	for k := range depth {
		out = append(out, deed{name: "Mark"}, deed{name: "Write", cell: 0, value: 21 + k})
	}
	return out
}

// orElseDeed is OrElse of these.
func orElseDeed(one, other *plan) deed {
	return deed{name: "OrElse", plans: []*plan{one, other}}
}
