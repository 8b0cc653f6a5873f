package sched

import "slices"

// entry is a task, and what is told of it.
type entry struct {
	id     int
	task   Task // nil, once it is over: it is asked for nothing any more
	status Status
	steps  int
}

// gather is the numbers of those of which is says so, in their order.
func gather(from []*entry, is func(t *entry) bool) []int {
	var ids []int
	for _, t := range from {
		if is(t) {
			ids = append(ids, t.id)
		}
	}
	return ids
}

// find is task id; nil, if there is none.
func (s *Sched) find(id int) *entry {
	if !s.isMade() || id < 1 || id > len(s.tasks) {
		return nil
	}
	return s.tasks[id-1]
}

// queue has t be ready, behind all others.
func (s *Sched) queue(t *entry) {
	t.status = Ready
	s.line = append(s.line, t)
}

// takeOut is the task at that place of the line, which stands there no more.
func (s *Sched) takeOut(place int) *entry {
	t := s.line[place]
	s.line = slices.Delete(s.line, place, place+1)
	return t
}

// step has t, which is out of the line, do a step. Meanwhile the Step may add and wake tasks.
func (s *Sched) step(t *entry) {
	s.now, s.woken = t, false
	told := t.task.Step()
	s.now = nil
	t.steps++
	switch {
	case told == Ready, told == Blocked && s.woken:
		s.queue(t)
	case told == Blocked:
		t.status = Blocked
	default:
		s.end(t)
	}
}

// end has t be over.
func (s *Sched) end(t *entry) {
	t.task, t.status = nil, Over
	s.alive = slices.DeleteFunc(s.alive, func(other *entry) bool { return other == t })
}
