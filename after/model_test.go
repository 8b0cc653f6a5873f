package after_test

import (
	"slices"

	"ledgerstone/after"
	"ledgerstone/api"
)

// face is what a queue and the model are both asked.
type face interface {
	Later(owner int, a int) api.Errno
	Commit(owner int, version int64) (int, api.Errno)
	Drop(owner int) int
	Take(upto int64) []after.Entry[int]
	Mark(owner int) int
	Back(owner, mark int) int
	Len() (int, int)
}

// put is an action that was put off, and what has come of it.
type put struct {
	owner, action int
	isGone        bool
	isDue         bool
	version       int64
	moment        int // of the Commit
}

// model is a queue as the chapter's words have it: a log of all that was ever put off; who waits, what is due and in which order is reckoned each time.
type model struct {
	log    []put
	moment int
}

// places is where those of the log stand of which is says so.
func (m *model) places(is func(p put) bool) []int {
	var out []int
	for k, p := range m.log {
		if !p.isGone && is(p) {
			out = append(out, k)
		}
	}
	return out
}

func (m *model) waiting(owner int) []int {
	return m.places(func(p put) bool { return !p.isDue && p.owner == owner })
}

func (m *model) Later(owner int, a int) api.Errno {
	all := m.places(func(put) bool { return true })
	switch {
	case owner <= 0:
		return api.ErrArg
	case len(all) > 1023:
		return api.ErrFull
	}
	m.log = append(m.log, put{owner: owner, action: a})
	return api.OK
}

func (m *model) Commit(owner int, version int64) (int, api.Errno) {
	if owner <= 0 || version <= -1 {
		return 0, api.ErrArg
	}
	m.moment++
	l := m.waiting(owner)
	for _, k := range l {
		m.log[k].isDue, m.log[k].version, m.log[k].moment = true, version, m.moment
	}
	return len(l), api.OK
}

func (m *model) Drop(owner int) int {
	l := m.waiting(owner)
	for _, k := range l {
		m.log[k].isGone = true
	}
	return len(l)
}

func (m *model) Mark(owner int) int { return len(m.waiting(owner)) }

func (m *model) Back(owner, mark int) int {
	n := 0
	for place, k := range m.waiting(owner) {
		if mark >= 0 && place >= mark {
			m.log[k].isGone = true
			n++
		}
	}
	return n
}

// Take picks the least again and again: the lowest version, of that the earliest Commit, of that what was put off first.
func (m *model) Take(upto int64) []after.Entry[int] {
	var out []after.Entry[int]
	for {
		due := m.places(func(p put) bool { return p.isDue && p.version <= upto })
		if len(due) == 0 {
			return out
		}
		k := slices.MinFunc(due, func(a, b int) int {
			x, y := m.log[a], m.log[b]
			switch {
			case x.version < y.version || x.version == y.version && x.moment < y.moment:
				return -1
			case x.version != y.version || x.moment != y.moment:
				return 1
			}
			return a - b
		})
		p := m.log[k]
		out = append(out, after.Entry[int]{Version: p.version, Owner: p.owner, Action: p.action})
		m.log[k].isGone = true
	}
}

func (m *model) Len() (int, int) {
	waiting := m.places(func(p put) bool { return !p.isDue })
	due := m.places(func(p put) bool { return p.isDue })
	return len(waiting), len(due)
}
