package sched_test

import (
	"fmt"
	"slices"
	"testing"

	"ledgerstone/sched"
)

// call is something that is asked of a sched; what it answered goes to the play's log.
type call struct {
	name string
	do   func(p *play)
}

// play is a sched or a model, with tasks that do at each step what the last pick said, and all that was answered.
type play struct {
	face
	told   sched.Status
	within []call
	adds   int // how many Adds of a task were tried
	log    []string
}

// player is a task of a play.
type player struct {
	play *play
	name int
}

func (t player) Step() sched.Status {
	p := t.play
	told, within := p.told, p.within // calls within may say what another pick does
	p.answer("step of", t.name)
	p.look()
	for _, c := range within {
		c.do(p)
		p.look()
	}
	return told
}

func (p *play) answer(l ...any) {
	p.log = append(p.log, fmt.Sprintln(l...))
}

// look is all that may be told.
func (p *play) look() {
	p.answer("line", p.Ready(), "blocked", p.Blocked())
	for id := -1; id <= p.adds+2; id++ {
		p.answer(id, "is", p.Status(id), "steps", p.Steps(id))
	}
}

func adds() call {
	return call{"Add", func(p *play) {
		p.adds++
		id, err := p.Add(player{p, p.adds})
		p.answer("Add", id, err)
	}}
}

func addsNil() call {
	return call{"Add nil", func(p *play) {
		id, err := p.Add(nil)
		p.answer("Add nil", id, err)
	}}
}

func wake(id int) call {
	return call{fmt.Sprint("Wake ", id), func(p *play) { p.answer("Wake", id, p.Wake(id)) }}
}

// pick is a Pick whose step, if there is one, does what within says, and tells told.
func pick(n uint64, told sched.Status, within ...call) call {
	name := fmt.Sprint("Pick ", n, " telling ", told)
	for _, c := range within {
		name += ", within it " + c.name
	}
	return call{name, func(p *play) {
		p.told, p.within = told, within
		id, status, ok := p.Pick(n)
		p.answer("Pick", id, status, ok)
	}}
}

// pair is a sched and the model, which are asked the same.
type pair struct {
	real, want *play
}

func newPair() pair {
	return pair{&play{face: sched.New()}, &play{face: newModel()}}
}

// ask does c with both, looks, and holds all answers against each other.
func (p pair) ask(t *testing.T, c call, what ...any) {
	t.Helper()
	for _, side := range []*play{p.real, p.want} {
		side.log = nil
		c.do(side)
		side.look()
	}
	if slices.Equal(p.real.log, p.want.log) {
		return
	}
	for i, want := range p.want.log {
		if i >= len(p.real.log) || p.real.log[i] != want {
			t.Fatal(what, c.name, "told", p.real.log[min(i, len(p.real.log)):], "wanted", p.want.log[i:])
		}
	}
	t.Fatal(what, c.name, "told more", p.real.log[len(p.want.log):])
}

// state is what the model's tasks are, and in which order; not how many steps they have had.
func (p pair) state() string {
	m := p.want.face.(*model)
	out := fmt.Sprint(m.Ready())
	for id := 1; id <= len(m.tasks); id++ {
		out += fmt.Sprint(" ", m.tasks[id].status)
	}
	return out
}
