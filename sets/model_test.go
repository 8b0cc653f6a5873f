package sets_test

import (
	"slices"

	"ledgerstone/api"
)

// face is what sets and the model are both asked.
type face[T any] interface {
	Read(i int, version int64) api.Errno
	Seen(i int) (int64, bool)
	Write(i int, v T) api.Errno
	Value(i int) (T, bool)
	Reads() []int
	Writes() []int
	Mark() api.Errno
	Keep() api.Errno
	Undo() api.Errno
	Depth() int
}

// kind is what was done.
type kind int

const (
	read kind = iota
	wrote
	marked
	kept
	undone
)

// deed is a call that told OK.
type deed[T any] struct {
	kind
	cell    int
	version int64
	value   T
}

// model is sets as the chapter's words have them: it keeps no cells, but what was done, and looks back for what is asked.
type model[T any] struct {
	deeds []deed[T]
}

func (m *model[T]) add(d deed[T]) api.Errno {
	m.deeds = append(m.deeds, d)
	return api.OK
}

// mark is where the scope was opened that the deed at place at has closed.
func (m *model[T]) mark(at int) int {
	open := 0
	for ; ; at-- {
		switch m.deeds[at].kind {
		case kept, undone:
			open++
		case marked:
			open--
		}
		if open == 0 {
			return at
		}
	}
}

// back is each read or write that counts, the last one first: of a scope that was undone no write does.
func (m *model[T]) back(k kind, look func(d deed[T])) {
	for at := len(m.deeds) - 1; at >= 0; at-- {
		switch d := m.deeds[at]; {
		case d.kind == k:
			look(d)
		case d.kind == undone && k == wrote:
			at = m.mark(at)
		}
	}
}

// last is what cell i was read or written with last.
func (m *model[T]) last(k kind, i int) (deed[T], bool) {
	var found []deed[T]
	m.back(k, func(d deed[T]) {
		if d.cell == i {
			found = append(found, d)
		}
	})
	if len(found) == 0 {
		return deed[T]{}, false
	}
	return found[0], true
}

// cells is those that were read or written, rising.
func (m *model[T]) cells(k kind) []int {
	var out []int
	m.back(k, func(d deed[T]) { out = append(out, d.cell) })
	slices.Sort(out)
	return slices.Compact(out)
}

func (m *model[T]) Read(i int, version int64) api.Errno {
	if i < 0 || i > 1023 || version < 0 {
		return api.ErrArg
	}
	d, ok := m.last(read, i)
	if ok && d.version != version {
		return api.ErrStale
	}
	if !ok && len(m.cells(read)) == 256 {
		return api.ErrLong
	}
	return m.add(deed[T]{kind: read, cell: i, version: version})
}

func (m *model[T]) Seen(i int) (int64, bool) {
	d, ok := m.last(read, i)
	return d.version, ok
}

func (m *model[T]) Write(i int, v T) api.Errno {
	if i < 0 || i > 1023 {
		return api.ErrArg
	}
	if _, ok := m.last(wrote, i); !ok && len(m.cells(wrote)) == 256 {
		return api.ErrLong
	}
	return m.add(deed[T]{kind: wrote, cell: i, value: v})
}

func (m *model[T]) Value(i int) (T, bool) {
	d, ok := m.last(wrote, i)
	return d.value, ok
}

func (m *model[T]) Reads() []int  { return m.cells(read) }
func (m *model[T]) Writes() []int { return m.cells(wrote) }

func (m *model[T]) Depth() int {
	open := 0
	for _, d := range m.deeds {
		switch d.kind {
		case marked:
			open++
		case kept, undone:
			open--
		}
	}
	return open
}

func (m *model[T]) Mark() api.Errno {
	if m.Depth() == 8 {
		return api.ErrLong
	}
	return m.add(deed[T]{kind: marked})
}

// closes adds a deed that closes a scope.
func (m *model[T]) closes(k kind) api.Errno {
	if m.Depth() == 0 {
		return api.ErrScope
	}
	return m.add(deed[T]{kind: k})
}

func (m *model[T]) Keep() api.Errno { return m.closes(kept) }
func (m *model[T]) Undo() api.Errno { return m.closes(undone) }
