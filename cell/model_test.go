package cell_test

import (
	"slices"

	"ledgerstone/api"
)

// face is what a memory and the model are both asked.
type face[T any] interface {
	Size() int
	Clock() int64
	Advance() (int64, api.Errno)
	Load(i int) (T, int64, int, api.Errno)
	Fill(i int, v T) api.Errno
	Lock(i, owner int) api.Errno
	Unlock(i, owner int) api.Errno
	Publish(i, owner int, v T, version int64) api.Errno
	Owned(owner int) []int
}

// kind is what was done.
type kind int

const (
	advanced kind = iota
	filled
	locked
	unlocked
	published
)

// deed is a call that told OK and changes something.
type deed[T any] struct {
	kind
	cell, owner int
	value       T
	version     int64
}

// model is a memory as the chapter's words have it: it keeps no cells, but what was done to them, and looks back for what is asked.
type model[T any] struct {
	size  int
	start int64 // the clock at first
	deeds []deed[T]
}

func (m *model[T]) add(d deed[T]) api.Errno {
	m.deeds = append(m.deeds, d)
	return api.OK
}

// last is what was done last to cell i of these kinds.
func (m *model[T]) last(i int, kinds ...kind) deed[T] {
	for at := len(m.deeds) - 1; at >= 0; at-- {
		for _, k := range kinds {
			if d := m.deeds[at]; d.kind == k && d.cell == i {
				return d
			}
		}
	}
	return deed[T]{}
}

// did is whether such a thing was done.
func (m *model[T]) did(k kind) bool {
	return slices.ContainsFunc(m.deeds, func(d deed[T]) bool { return d.kind == k })
}

func (m *model[T]) owner(i int) int     { return m.last(i, locked, unlocked, published).owner }
func (m *model[T]) version(i int) int64 { return m.last(i, published).version }

// fault is an error, and whether it holds.
type fault struct {
	err   api.Errno
	holds func() bool
}

// first is the first of these errors that holds; those behind it are not asked.
func first(l ...fault) api.Errno {
	for _, f := range l {
		if f.holds() {
			return f.err
		}
	}
	return api.OK
}

func (m *model[T]) noCell(i int) fault {
	return fault{api.ErrArg, func() bool { return i < 0 || i > m.size-1 }}
}

func noOwner(owner int) fault {
	return fault{api.ErrArg, func() bool { return owner <= 0 }}
}

func (m *model[T]) notOf(i, owner int) fault {
	return fault{api.ErrBusy, func() bool { return m.owner(i) != owner }}
}

func (m *model[T]) Size() int { return m.size }

func (m *model[T]) Clock() int64 {
	clock := m.start
	for _, d := range m.deeds {
		if d.kind == advanced {
			clock++
		}
	}
	return clock
}

func (m *model[T]) Advance() (int64, api.Errno) {
	if m.Clock() == 1099511627776 {
		return 0, api.ErrClock
	}
	m.add(deed[T]{kind: advanced, cell: -1})
	return m.Clock(), api.OK
}

func (m *model[T]) Load(i int) (T, int64, int, api.Errno) {
	if err := first(m.noCell(i)); err != api.OK {
		return *new(T), 0, 0, err
	}
	return m.last(i, filled, published).value, m.version(i), m.owner(i), api.OK
}

func (m *model[T]) Fill(i int, v T) api.Errno {
	owned := fault{api.ErrBusy, func() bool { return m.owner(i) != 0 }}
	old := fault{api.ErrStale, func() bool { return m.version(i) != 0 }}
	if err := first(m.noCell(i), owned, old); err != api.OK {
		return err
	}
	return m.add(deed[T]{kind: filled, cell: i, value: v})
}

func (m *model[T]) Lock(i, owner int) api.Errno {
	another := fault{api.ErrBusy, func() bool { return m.owner(i) != 0 && m.owner(i) != owner }}
	if err := first(m.noCell(i), noOwner(owner), another); err != api.OK {
		return err
	}
	return m.add(deed[T]{kind: locked, cell: i, owner: owner})
}

func (m *model[T]) Unlock(i, owner int) api.Errno {
	if err := first(m.noCell(i), noOwner(owner), m.notOf(i, owner)); err != api.OK {
		return err
	}
	return m.add(deed[T]{kind: unlocked, cell: i})
}

func (m *model[T]) Publish(i, owner int, v T, version int64) api.Errno {
	notAbove := fault{api.ErrStale, func() bool { return version <= m.version(i) }}
	notYet := fault{api.ErrStale, func() bool { return version > m.Clock() }}
	if err := first(m.noCell(i), noOwner(owner), m.notOf(i, owner), notAbove, notYet); err != api.OK {
		return err
	}
	return m.add(deed[T]{kind: published, cell: i, value: v, version: version})
}

func (m *model[T]) Owned(owner int) []int {
	var out []int
	for i := 0; i < m.size && owner > 0; i++ {
		if m.owner(i) == owner {
			out = append(out, i)
		}
	}
	return out
}
