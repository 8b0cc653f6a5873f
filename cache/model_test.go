package cache_test

import (
	"bytes"
	"fmt"

	"ledgerstone/api"
	"ledgerstone/volume"
)

// face is what a cache and the model are both asked.
type face interface {
	Load(n int) ([]byte, api.Errno)
	Pin(n int) api.Errno
	Unpin(n int) api.Errno
	Put(n int, b []byte) api.Errno
	Commit() (int, api.Errno)
	Drop(n int) api.Errno
	Held() []int
	Dirty() []int
	Pinned() []int
}

// slot of the model: with a buffer, or empty.
type slot struct {
	full        bool
	block, pins int
	data        [4096]byte
	dirty, mark bool
}

// model is a cache as the chapter's words have it, of a volume of its own.
type model struct {
	volume *volume.Volume
	slots  []slot
	hand   int
}

func newModel(v *volume.Volume, room int) *model {
	return &model{volume: v, slots: make([]slot, room)}
}

// at is the slot that has block n; -1: none.
func (m *model) at(n int) int {
	for i := range m.slots {
		if m.slots[i].full && m.slots[i].block == n {
			return i
		}
	}
	return -1
}

// room is the slot in which room was made; -1: there is none.
func (m *model) room() int {
	for i := range m.slots {
		if !m.slots[i].full {
			return i
		}
	}
	for looks := 0; looks < 2*len(m.slots); looks++ {
		at := m.hand
		if m.hand++; m.hand == len(m.slots) {
			m.hand = 0
		}
		if m.slots[at].pins != 0 || m.slots[at].dirty {
			continue
		}
		if !m.slots[at].mark {
			m.slots[at] = slot{}
			return at
		}
		m.slots[at].mark = false
	}
	return -1
}

func (m *model) Load(n int) ([]byte, api.Errno) {
	i := m.at(n)
	if i < 0 {
		b, err := m.volume.Read(n)
		if err != api.OK {
			return nil, err
		}
		if i = m.room(); i < 0 {
			return nil, api.ErrBusy
		}
		m.slots[i] = slot{full: true, block: n, data: [4096]byte(b)}
	}
	m.slots[i].mark = true
	return bytes.Clone(m.slots[i].data[:]), api.OK
}

func (m *model) Pin(n int) api.Errno {
	i := m.at(n)
	if i < 0 {
		return api.ErrArg
	}
	if m.slots[i].pins == 1000 {
		return api.ErrFull
	}
	m.slots[i].pins++
	return api.OK
}

func (m *model) Unpin(n int) api.Errno {
	i := m.at(n)
	if i < 0 || m.slots[i].pins == 0 {
		return api.ErrArg
	}
	m.slots[i].pins--
	return api.OK
}

func (m *model) Put(n int, b []byte) api.Errno {
	i := m.at(n)
	if i < 0 || len(b) != 4096 {
		return api.ErrArg
	}
	m.slots[i].data = [4096]byte(b)
	m.slots[i].dirty, m.slots[i].mark = true, true
	return api.OK
}

func (m *model) Drop(n int) api.Errno {
	i := m.at(n)
	if i < 0 {
		return api.ErrArg
	}
	if m.slots[i].pins > 0 {
		return api.ErrBusy
	}
	m.slots[i] = slot{}
	return api.OK
}

func (m *model) Commit() (int, api.Errno) {
	var l []api.Image
	for _, n := range m.Dirty() {
		l = append(l, image(n, bytes.Clone(m.slots[m.at(n)].data[:])))
	}
	if l == nil {
		return 0, api.OK
	}
	seq, err := m.volume.Commit(l)
	for i := range m.slots {
		m.slots[i].dirty = m.slots[i].dirty && err != api.OK
	}
	return seq, err
}

// told is the blocks of those slots that are full and of which is says so.
func (m *model) told(is func(s *slot) bool) []int {
	var has [512]bool
	for i := range m.slots {
		if s := &m.slots[i]; s.full && is(s) {
			has[s.block] = true
		}
	}
	var out []int
	for n := range has {
		if has[n] {
			out = append(out, n)
		}
	}
	return out
}

func (m *model) Held() []int   { return m.told(func(*slot) bool { return true }) }
func (m *model) Dirty() []int  { return m.told(func(s *slot) bool { return s.dirty }) }
func (m *model) Pinned() []int { return m.told(func(s *slot) bool { return s.pins > 0 }) }

// state is all that m has but for the bytes, as a text.
func (m *model) state() string {
	out := fmt.Sprint(m.hand)
	for _, s := range m.slots {
		out += fmt.Sprint(" ", s.full, s.block, s.pins, s.dirty, s.mark)
	}
	return out
}
