package tl2_test

import (
	"maps"
	"slices"

	"ledgerstone/api"
	"ledgerstone/tl2"
)

// face is what a transaction and the model are both asked.
type face[T any] interface {
	Read(i int) (T, api.Errno)
	Write(i int, v T) api.Errno
	Mark() api.Errno
	Keep() api.Errno
	Undo() api.Errno
	Depth() int
	Cells() int
	Step() (tl2.Status, api.Errno)
	Abort() api.Errno
	Status() tl2.Status
	Version() int64
	Claimed() int64
	Reads() []int
	Writes() []int
	Value(i int) (T, bool)
	Seen(i int) (int64, bool)
}

// memory is what a memory and the plain one are both asked.
type memory[T any] interface {
	Size() int
	Clock() int64
	Advance() (int64, api.Errno)
	Load(i int) (T, int64, int, api.Errno)
	Fill(i int, v T) api.Errno
	Lock(i, owner int) api.Errno
	Unlock(i, owner int) api.Errno
	Publish(i, owner int, v T, version int64) api.Errno
}

// plainCell is what a cell has.
type plainCell struct {
	value   int
	version int64
	owner   int
}

// plain is a memory of plain numbers, for arguments that may be: what lies below is told by its own tests.
type plain struct {
	cells []plainCell
	clock int64
}

func newPlain(n int, clock int64) *plain {
	return &plain{make([]plainCell, n), clock}
}

func (p *plain) Size() int    { return len(p.cells) }
func (p *plain) Clock() int64 { return p.clock }

func (p *plain) Advance() (int64, api.Errno) {
	if p.clock == 1<<40 {
		return 0, api.ErrClock
	}
	p.clock++
	return p.clock, api.OK
}

func (p *plain) Load(i int) (int, int64, int, api.Errno) {
	c := p.cells[i]
	return c.value, c.version, c.owner, api.OK
}

func (p *plain) Fill(i, v int) api.Errno {
	switch c := &p.cells[i]; {
	case c.owner != 0:
		return api.ErrBusy
	case c.version != 0:
		return api.ErrStale
	default:
		c.value = v
	}
	return api.OK
}

func (p *plain) Lock(i, owner int) api.Errno {
	if c := p.cells[i]; c.owner != 0 && c.owner != owner {
		return api.ErrBusy
	}
	p.cells[i].owner = owner
	return api.OK
}

func (p *plain) Unlock(i, owner int) api.Errno {
	if p.cells[i].owner != owner {
		return api.ErrBusy
	}
	p.cells[i].owner = 0
	return api.OK
}

func (p *plain) Publish(i, owner, v int, version int64) api.Errno {
	switch c := p.cells[i]; {
	case c.owner != owner:
		return api.ErrBusy
	case version <= c.version || version > p.clock:
		return api.ErrStale
	}
	p.cells[i] = plainCell{v, version, 0}
	return api.OK
}

// deed is a call that told OK: a Read of a cell, a Write, or what opens and closes a scope.
type deed struct {
	name    string
	cell    int
	value   int
	version int64
}

// model is a transaction as the chapter's words have it: it keeps what was done, and how many steps of its end; it looks back for what is asked.
type model struct {
	p         *plain
	owner     int
	beginning int64
	deeds     []deed
	steps     int
	claimed   int64
	failed    bool
}

func beginModel(p *plain, owner int) *model {
	return &model{p: p, owner: owner, beginning: p.clock}
}

// scopes is the writes as they are in each scope, those outside of all first.
func scopes(deeds []deed) []map[int]int {
	out := []map[int]int{{}}
	for _, d := range deeds {
		top := len(out) - 1
		switch d.name {
		case "Write":
			out[top][d.cell] = d.value
		case "Mark":
			out = append(out, maps.Clone(out[top]))
		case "Keep":
			out = append(out[:top-1], out[top])
		case "Undo":
			out = out[:top]
		}
	}
	return out
}

// written is the writes that count.
func (x *model) written() map[int]int {
	all := scopes(x.deeds)
	return all[len(all)-1]
}

// seen is the reads, by their versions.
func (x *model) seen() map[int]int64 {
	out := map[int]int64{}
	for _, d := range x.deeds {
		if d.name == "Read" {
			out[d.cell] = d.version
		}
	}
	return out
}

func (x *model) add(d deed) api.Errno {
	x.deeds = append(x.deeds, d)
	return api.OK
}

func (x *model) Reads() []int  { return slices.Sorted(maps.Keys(x.seen())) }
func (x *model) Writes() []int { return slices.Sorted(maps.Keys(x.written())) }
func (x *model) Depth() int    { return len(scopes(x.deeds)) - 1 }
func (x *model) Cells() int    { return len(x.p.cells) }

func (x *model) Value(i int) (int, bool) {
	v, ok := x.written()[i]
	return v, ok
}

func (x *model) Seen(i int) (int64, bool) {
	version, ok := x.seen()[i]
	return version, ok
}

// length is how many steps its end has.
func (x *model) length() int {
	if len(x.Writes()) == 0 {
		return 1
	}
	return 2*len(x.Writes()) + 1 + len(x.Reads())
}

func (x *model) Status() tl2.Status {
	switch {
	case x.failed:
		return tl2.Failed
	case x.steps == 0:
		return tl2.Open
	case x.steps < x.length():
		return tl2.Ending
	}
	return tl2.Done
}

func (x *model) Version() int64 {
	switch {
	case x.Status() != tl2.Done:
		return 0
	case len(x.Writes()) == 0:
		return x.beginning
	}
	return x.claimed
}

func (x *model) Claimed() int64 {
	if x.Status() != tl2.Ending {
		return 0
	}
	return x.claimed
}

// fails has it be failed, with that error.
func (x *model) fails(err api.Errno) api.Errno {
	x.failed = true
	for i := range x.p.cells {
		if x.p.cells[i].owner == x.owner {
			x.p.cells[i].owner = 0
		}
	}
	return err
}

// bad is why cell i can't be used, if so.
func (x *model) bad(i int) api.Errno {
	switch {
	case x.Status() != tl2.Open:
		return api.ErrOver
	case i < 0 || i > len(x.p.cells)-1:
		return api.ErrArg
	}
	return api.OK
}

func (x *model) Read(i int) (int, api.Errno) {
	if err := x.bad(i); err != api.OK {
		return 0, err
	}
	if v, ok := x.Value(i); ok {
		return v, api.OK
	}
	c := x.p.cells[i]
	version, isRead := x.Seen(i)
	switch {
	case c.owner != 0, c.version > x.beginning, isRead && c.version != version:
		return 0, x.fails(api.ErrStale)
	case !isRead && len(x.Reads()) == 256:
		return 0, api.ErrLong
	}
	return c.value, x.add(deed{"Read", i, c.value, c.version})
}

func (x *model) Write(i, v int) api.Errno {
	if err := x.bad(i); err != api.OK {
		return err
	}
	if _, ok := x.Value(i); !ok && len(x.Writes()) == 256 {
		return api.ErrLong
	}
	return x.add(deed{name: "Write", cell: i, value: v})
}

func (x *model) Mark() api.Errno {
	switch {
	case x.Status() != tl2.Open:
		return api.ErrOver
	case x.Depth() == 8:
		return api.ErrLong
	}
	return x.add(deed{name: "Mark"})
}

// closes is a Keep or an Undo.
func (x *model) closes(name string) api.Errno {
	switch {
	case x.Status() != tl2.Open:
		return api.ErrOver
	case x.Depth() == 0:
		return api.ErrScope
	}
	return x.add(deed{name: name})
}

func (x *model) Keep() api.Errno { return x.closes("Keep") }
func (x *model) Undo() api.Errno { return x.closes("Undo") }

func (x *model) Step() (tl2.Status, api.Errno) {
	if s := x.Status(); s != tl2.Open && s != tl2.Ending {
		return s, api.ErrOver
	}
	err := api.OK
	if len(x.Writes()) > 0 {
		err = x.step(x.steps)
	}
	x.steps++
	if err != api.OK {
		x.fails(err)
	}
	return x.Status(), err
}

// step does the step at that place of an end with writes.
func (x *model) step(at int) api.Errno {
	written, seen := x.Writes(), x.Reads()
	if at < len(written) {
		return x.p.Lock(written[at], x.owner)
	}
	at -= len(written)
	if at == 0 {
		version, err := x.p.Advance()
		x.claimed = version
		return err
	}
	at--
	if at < len(seen) {
		c := x.p.cells[seen[at]]
		if version, _ := x.Seen(seen[at]); c.version != version || c.owner != 0 && c.owner != x.owner {
			return api.ErrStale
		}
		return api.OK
	}
	at -= len(seen)
	v, _ := x.Value(written[at])
	return x.p.Publish(written[at], x.owner, v, x.claimed)
}

func (x *model) Abort() api.Errno {
	switch s := x.Status(); {
	case s != tl2.Open && s != tl2.Ending:
		return api.ErrOver
	case x.steps > len(x.Writes())+1+len(x.Reads()):
		return api.ErrOver
	}
	x.fails(api.OK)
	return api.OK
}
