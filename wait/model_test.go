package wait_test

import (
	"fmt"
	"slices"
	"testing"

	"ledgerstone/api"
	"ledgerstone/cell"
	"ledgerstone/tl2"
	"ledgerstone/wait"
)

// seen is a cell, and the version that it had when it was read.
type seen struct {
	cell    int
	version int64
}

// reader is a transaction, and what was noted when it read something.
type reader struct {
	*tl2.Tx[int]
	notes []seen
}

// waiter is one as the chapter's words have it.
type waiter struct {
	id    int
	cells []seen
}

// model is a watch as the chapter's words have it: a list of waiters, in the order in which they were parked.
type model struct {
	waiters []waiter
}

func (w *model) find(id int) int {
	for k := len(w.waiters) - 1; k >= 0; k-- {
		if w.waiters[k].id == id {
			return k
		}
	}
	return -1
}

func (w *model) park(id int, x *reader) api.Errno {
	switch {
	case x == nil:
		return api.ErrNil
	case id <= 0:
		return api.ErrArg
	case w.find(id) >= 0:
		return api.ErrBusy
	case len(w.waiters) == 64:
		return api.ErrFull
	}
	w.waiters = append(w.waiters, waiter{id, slices.Clone(x.notes)})
	return api.OK
}

func (w *model) forget(id int) bool {
	k := w.find(id)
	if k >= 0 {
		w.waiters = append(slices.Clone(w.waiters[:k]), w.waiters[k+1:]...)
	}
	return k >= 0
}

// parked is the ids from the least on: each time the least above the one ahead.
func (w *model) parked() []int {
	var out []int
	for last := 0; len(out) < len(w.waiters); {
		least := -1
		for _, a := range w.waiters {
			if a.id > last && (least < 0 || a.id < least) {
				least = a.id
			}
		}
		out = append(out, least)
		last = least
	}
	return out
}

// changed is of the waiters those that can go on, with the versions that cells have now.
func (w *model) changed(now []int64) []int {
	var out []int
	for _, id := range w.parked() {
		for _, c := range w.waiters[w.find(id)].cells {
			if now[c.cell] != c.version {
				out = append(out, id)
				w.forget(id)
				break
			}
		}
	}
	return out
}

// scene is a watch and its model, with a memory and transactions that both are of.
type scene struct {
	t       *testing.T
	m       *cell.Memory[int]
	w       *wait.Watch[int]
	want    model
	readers []*reader
	log     []string // what was done
	tally   map[string]int
}

func newScene(t *testing.T, cells, transactions int) *scene {
	t.Helper()
	m := empty[int](t, cells)
	s := &scene{t: t, m: m, w: watch(t, m), readers: make([]*reader, transactions), tally: map[string]int{}}
	for k := range s.readers {
		s.begin(k)
	}
	return s
}

// versions are those that the cells have now.
func (s *scene) versions() []int64 {
	out := make([]int64, s.m.Size())
	for i := range out {
		_, out[i], _, _ = s.m.Load(i)
	}
	return out
}

// holds has what was told be what the model tells.
func (s *scene) holds(what string, got, want any) {
	s.t.Helper()
	told := fmt.Sprint(got)
	s.log = append(s.log, what+" "+told)
	s.tally[what+" "+told]++
	if wanted := fmt.Sprint(want); told != wanted {
		s.t.Fatal("told", told, "wanted", wanted, s.log)
	}
}

func (s *scene) park(id int, x *reader) {
	s.t.Helper()
	var tx *tl2.Tx[int]
	if x != nil {
		tx = x.Tx
	}
	s.holds("Park", int(s.w.Park(id, tx)), int(s.want.park(id, x)))
	s.look()
}

func (s *scene) forget(id int) {
	s.t.Helper()
	s.holds("Forget", s.w.Forget(id), s.want.forget(id))
	s.look()
}

func (s *scene) changed() {
	s.t.Helper()
	s.holds("Changed", s.w.Changed(), s.want.changed(s.versions()))
	s.look()
}

func (s *scene) look() {
	s.t.Helper()
	s.holds("Parked", s.w.Parked(), s.want.parked())
}

// end has transaction k be over.
func (s *scene) end(k int) {
	x := s.readers[k]
	for x.Abort() != api.OK && x.Status() == tl2.Ending {
		x.Step()
	}
}

// begin has transaction k be a new one.
func (s *scene) begin(k int) {
	if s.readers[k] != nil {
		s.end(k)
	}
	x, err := tl2.Begin(s.m, k+1)
	done(s.t, err)
	s.readers[k] = &reader{Tx: x}
}

// read has transaction k read cell i, and notes what it was told.
func (s *scene) read(k, i int) {
	x := s.readers[k]
	_, isWritten := x.Value(i)
	_, version, _, _ := s.m.Load(i)
	_, err := x.Read(i)
	if note := (seen{i, version}); err == api.OK && !isWritten && !slices.Contains(x.notes, note) {
		x.notes = append(x.notes, note)
	}
}

// publish has cell i have a new version, if nobody has locked it.
func (s *scene) publish(i int) {
	if s.m.Lock(i, outsider) == api.OK {
		version, err := s.m.Advance()
		done(s.t, err, s.m.Publish(i, outsider, int(version), version))
	}
}

// toggle locks cell i, or unlocks it.
func (s *scene) toggle(i int) {
	if s.m.Unlock(i, outsider) != api.OK {
		s.m.Lock(i, outsider)
	}
}
