package sched_test

import (
	"slices"

	"ledgerstone/api"
	"ledgerstone/sched"
)

// face is what a sched and the model are both asked.
type face interface {
	Add(t sched.Task) (int, api.Errno)
	Pick(p uint64) (int, sched.Status, bool)
	Wake(id int) bool
	Status(id int) sched.Status
	Ready() []int
	Blocked() []int
	Steps(id int) int
}

// one is a task of the model: it stands in the line by the moment in which it got ready.
type one struct {
	task   sched.Task
	status sched.Status
	since  int
	steps  int
}

// model is a sched as the chapter's words have it: no line is kept, it is reckoned each time.
type model struct {
	tasks  map[int]one
	moment int
	going  map[int]int // the task that has its step, with how often it was woken during it
}

func newModel() *model {
	return &model{tasks: map[int]one{}, going: map[int]int{}}
}

// told is the tasks of which is says so, rising.
func (m *model) told(is func(id int) bool) []int {
	var out []int
	for id := 1; id <= len(m.tasks); id++ {
		if is(id) {
			out = append(out, id)
		}
	}
	return out
}

// ready has task id be so, behind all others.
func (m *model) ready(id int) {
	x := m.tasks[id]
	m.moment++
	x.status, x.since = sched.Ready, m.moment
	m.tasks[id] = x
}

func (m *model) Add(t sched.Task) (int, api.Errno) {
	if t == nil {
		return 0, api.ErrNil
	}
	if len(m.told(func(id int) bool { return m.tasks[id].status != sched.Over })) == 64 {
		return 0, api.ErrFull
	}
	id := len(m.tasks) + 1
	m.tasks[id] = one{task: t}
	m.ready(id)
	return id, api.OK
}

func (m *model) Pick(p uint64) (int, sched.Status, bool) {
	line := m.Ready()
	if len(line) == 0 || len(m.going) > 0 {
		return 0, 0, false
	}
	place := p
	for n := uint64(len(line)); place >= n; {
		place -= place / n * n
	}
	id := line[place]
	m.going[id] = 0
	status := m.tasks[id].task.Step()
	woken := m.going[id]
	delete(m.going, id)
	x := m.tasks[id]
	x.steps++
	switch {
	case status == sched.Blocked && woken > 0:
		status = sched.Ready
	case status != sched.Ready && status != sched.Blocked:
		status = sched.Over
	}
	x.status = status
	m.tasks[id] = x
	if status == sched.Ready {
		m.ready(id)
	}
	return id, status, true
}

func (m *model) Wake(id int) bool {
	if times, ok := m.going[id]; ok {
		m.going[id]++
		return times == 0
	}
	if m.tasks[id].status != sched.Blocked {
		return false
	}
	m.ready(id)
	return true
}

func (m *model) Status(id int) sched.Status { return m.tasks[id].status }

func (m *model) Ready() []int {
	line := m.told(func(id int) bool {
		_, going := m.going[id]
		return m.tasks[id].status == sched.Ready && !going
	})
	slices.SortFunc(line, func(a, b int) int { return m.tasks[a].since - m.tasks[b].since })
	return line
}

func (m *model) Blocked() []int {
	return m.told(func(id int) bool { return m.tasks[id].status == sched.Blocked })
}

func (m *model) Steps(id int) int { return m.tasks[id].steps }
