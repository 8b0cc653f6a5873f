package sets_test

import (
	"fmt"
	"testing"

	"ledgerstone/sets"
)

// looks is what is told of each cell.
type looks struct {
	values map[int]string
	seen   map[int]int64
}

func lookAt(s *sets.Sets[int]) looks {
	out := looks{map[int]string{}, map[int]int64{}}
	for i := -1; i <= 1024; i++ {
		v, ok := s.Value(i)
		out.values[i] = fmt.Sprint(v, ok)
		if version, ok := s.Seen(i); ok {
			out.seen[i] = version
		}
	}
	return out
}

// inScope has s do calls by chance, with scopes within that are all closed again.
func (c chance) inScope(s *sets.Sets[int], steps int) {
	depth := s.Depth()
	for step := range steps {
		do := c.step(10_000 + step)
		if s.Depth() == depth && (do.name == "Keep" || do.name == "Undo") {
			continue
		}
		do.do(s)
	}
	for s.Depth() > depth {
		[]call{keeping(), undoing()}[c.Intn(2)].do(s)
	}
}

// P15.5: behind Mark, any reads and writes, and Undo, Value of each cell is what it was; Seen tells more, never less. No model is asked.
func TestWhatFollows(t *testing.T) {
	more, changed := 0, 0
	for seed := range int64(80) {
		c := newChance(seed, []int{1, 3, 40, 300}[seed%4], seed%2 == 1)
		s := sets.New[int]()
		for round := range 12 {
			for range c.Intn(30) { // from here and there on
				c.step(round).do(s)
			}
			before, depth := lookAt(s), s.Depth()
			if marking().do(s) != "ledgerstone: 0" {
				done(t, s.Undo())
				continue
			}
			c.inScope(s, []int{0, 5, 50, 500}[c.Intn(4)])
			within := lookAt(s)
			done(t, s.Undo())
			deep(t, s, depth)
			after := lookAt(s)
			for i := -1; i <= 1024; i++ {
				if after.values[i] != before.values[i] {
					t.Fatal(seed, round, i, before.values[i], after.values[i])
				}
				if within.values[i] != before.values[i] {
					changed++
				}
			}
			for i, version := range before.seen {
				if got, ok := after.seen[i]; got != version || !ok {
					t.Fatal(seed, round, i, version, got, ok)
				}
			}
			more += len(after.seen) - len(before.seen)
			if len(after.seen) != len(within.seen) {
				t.Fatal(seed, round, "reads went with the scope")
			}
		}
	}
	if more < 1000 || changed < 1000 {
		t.Fatal("the test itself", more, changed)
	}
}

// script is calls, of which some open and close scopes; each scope has a number, 0 is none.
type script struct {
	calls []call
	scope []int // which scope a call opens or closes
	kept  []bool
}

// write is a script by chance with at most so many scopes in one another.
func (c chance) write(steps, depth int) script {
	s := script{kept: []bool{false}}
	var open []int
	add := func(do call, scope int) {
		s.calls = append(s.calls, do)
		s.scope = append(s.scope, scope)
	}
	shut := func(do call) {
		last := open[len(open)-1]
		open = open[:len(open)-1]
		s.kept[last] = do.name == "Keep"
		add(do, last)
	}
	for step := range steps {
		switch do := c.step(step); do.name {
		case "Mark":
			if len(open) < depth {
				s.kept = append(s.kept, false)
				open = append(open, len(s.kept)-1)
				add(do, len(s.kept)-1)
			}
		case "Keep", "Undo":
			if len(open) > 0 {
				shut(do)
			}
		default:
			add(do, 0)
		}
	}
	for len(open) > 0 {
		shut([]call{keeping(), undoing()}[c.Intn(2)])
	}
	return s
}

// do is what the script leads to, and what its calls told, but for those that open and close the scopes that are left out.
func (s script) do(without func(scope int) bool) (*sets.Sets[int], string) {
	out, told := sets.New[int](), ""
	for k, do := range s.calls {
		if scope := s.scope[k]; scope > 0 {
			if !without(scope) {
				do.do(out)
			}
			continue
		}
		told += fmt.Sprintln(do.name, do.do(out), out.Reads(), out.Writes())
	}
	return out, told
}

// P15.4: keeping a scope is as never having opened it: all that reads and writes tell, in it and behind it, is the same without.
func TestKeepIsAsNeverOpened(t *testing.T) {
	kept := 0
	for seed := range int64(300) {
		c := newChance(seed, []int{1, 2, 5, 30}[seed%4], seed%2 == 1)
		s := c.write(150, 8)
		with, told := s.do(func(int) bool { return false })
		end := whole(with, 1024)
		for scope := range s.kept {
			if !s.kept[scope] {
				continue
			}
			kept++
			if without, other := s.do(func(k int) bool { return k == scope }); other != told || whole(without, 1024) != end {
				t.Fatal(seed, scope, told, other)
			}
			break
		}
		if without, other := s.do(func(k int) bool { return s.kept[k] }); other != told || whole(without, 1024) != end {
			t.Fatal(seed, told, other)
		}
	}
	if kept < 200 {
		t.Fatal("the test itself", kept)
	}
}

// P15.4: undoing a scope is as having only read in it.
func TestUndoIsAsNeverWritten(t *testing.T) {
	for seed := range int64(200) {
		c := newChance(seed, []int{1, 2, 5, 30}[seed%4], false)
		s := c.write(150, 8)
		with, _ := s.do(func(int) bool { return false })
		without := sets.New[int]()
		var undone []int // of the scopes that are open, those that will be undone
		for k, do := range s.calls {
			scope := s.scope[k]
			switch {
			case scope > 0 && s.kept[scope]:
			case scope > 0 && do.name == "Mark":
				undone = append(undone, scope)
			case scope > 0:
				undone = undone[:len(undone)-1]
			case len(undone) == 0 || do.name[:4] == "Read":
				do.do(without)
			}
		}
		if got, wanted := whole(with, 1024), whole(without, 1024); got != wanted {
			t.Fatal(seed, got, wanted)
		}
	}
}
