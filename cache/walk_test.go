package cache_test

import (
	"bytes"
	"fmt"
	"maps"
	"math/rand"
	"slices"
	"testing"

	"ledgerstone/api"
)

// moves are all calls of these blocks.
func moves(blocks []int) []call {
	out := []call{commit()}
	for _, n := range blocks {
		out = append(out, load(n), pin(n), unpin(n), put(n, filled(byte(n))), drop(n))
	}
	return out
}

// drain loads blocks that are not held, more than twice as many as there are slots: which ones go tells the marks, and where the hand stands.
func (p pair) drain(t *testing.T, what ...any) {
	t.Helper()
	for i := range 2*len(p.model.slots) + 1 {
		p.ask(t, load(50+i), what...)
	}
}

// free has nothing be pinned or dirty.
func (p pair) free(t *testing.T, what ...any) {
	t.Helper()
	for _, n := range p.model.Pinned() {
		for p.ask(t, unpin(n), what...).err == api.OK {
		}
	}
	p.ask(t, commit(), what...)
}

// P12.1 to P12.5: every call in every state that calls of some blocks come to (pinned up to twice), in caches of one and two slots, against the model; behind each of them it is told by further Loads which marks are set, and where the hand stands.
func TestEveryState(t *testing.T) {
	for room := 1; room <= 2; room++ {
		base := open(t, 64, room)
		calls := moves(span(30, room+1))
		paths := [][]call{nil}
		seen := map[string]bool{newModel(nil, room).state(): true}
		for at := 0; at < len(paths); at++ {
			for _, next := range calls {
				var p pair
				for _, freed := range []bool{false, true} {
					p = base.again(t, room)
					for _, c := range paths[at] {
						c.do(p.real)
						c.do(p.want)
					}
					p.ask(t, next, room, at)
					state := p.model.state()
					if !seen[state] && !slices.ContainsFunc(p.model.slots, func(s slot) bool { return s.pins > 2 }) {
						seen[state] = true
						paths = append(paths, append(slices.Clone(paths[at]), next))
					}
					if freed {
						p.free(t, next.name, room, at)
					}
					p.drain(t, next.name, room, at, freed)
				}
			}
		}
		if least := []int{0, 13, 700}[room]; len(paths) < least {
			t.Fatal("the test itself", room, len(paths))
		}
	}
}

// chanceCall is a call by chance, mostly of blocks that are held or near to them.
func chanceCall(r *rand.Rand, p pair, blocks, spread int) call {
	n := blocks/2 + r.Intn(spread)
	if held := p.model.Held(); len(held) > 0 && r.Intn(2) == 0 {
		n = held[r.Intn(len(held))]
	}
	if r.Intn(40) == 0 {
		n = []int{-1, 0, 1, 2, blocks - 1, blocks, 1 << 40}[r.Intn(7)]
	}
	data := mixed(r.Int(), 1)
	switch k := r.Intn(100); {
	case k < 45:
		return load(n)
	case k < 55:
		return pin(n)
	case k < 67:
		return unpin(n)
	case k < 80:
		return put(n, data)
	case k < 81:
		return put(n, data[:4095-r.Intn(2)*4095])
	case k < 87:
		return drop(n)
	case k < 97:
		return commit()
	case k < 98:
		return volumeCommit([]api.Image{image(n, data)})
	case k < 99:
		return sync()
	}
	return checkpoint()
}

// P12.1 to P12.5: many calls by chance against the model, through power that fails too.
func TestCallsByChance(t *testing.T) {
	for seed, k := range []struct{ blocks, room, spread int }{
		{64, 1, 3}, {64, 2, 5}, {64, 3, 6}, {64, 4, 6}, {64, 5, 12}, {64, 8, 30}, {64, 17, 30}, {64, 64, 32}, {136, 3, 5}, {512, 16, 40}, {512, 33, 80}, {512, 40, 50}, {512, 64, 200},
	} {
		r := rand.New(rand.NewSource(int64(seed)))
		for life := range 6 {
			p := open(t, k.blocks, k.room)
			for step := range 1500 {
				p.ask(t, chanceCall(r, p, k.blocks, k.spread), seed, life, step)
				if step == 1400 && life%3 == 1 {
					p.ask(t, arm(r.Intn(20)), seed, life)
				}
				if step == 1400 && life%3 == 2 {
					p.ask(t, fail(r.Intn(20)), seed, life)
				}
				if step%250 == 0 {
					p.sameDisks(t, seed, life, step)
				}
			}
			p.sameDisks(t, seed, life)
		}
	}
}

// watch is what follows of the calls alone (P12.6), without slots and hands.
type watch struct {
	room  int
	put   map[int][]byte // what was Put last, and not dropped since; once it was committed, it may have gone
	pins  map[int]int
	dirty map[int]int
}

// keeps is that no more blocks are held than the room says, and that all that is pinned or dirty is held and told.
func (w watch) keeps(t *testing.T, c face, what ...any) {
	t.Helper()
	held := c.Held()
	if len(held) > w.room || !slices.IsSorted(held) || len(slices.Compact(slices.Clone(held))) != len(held) {
		t.Fatal("held", held, what)
	}
	for i, kind := range []struct {
		want []int
		got  []int
	}{{slices.Sorted(maps.Keys(w.pins)), c.Pinned()}, {slices.Sorted(maps.Keys(w.dirty)), c.Dirty()}} {
		if !slices.Equal(kind.got, kind.want) {
			t.Fatal("pinned or dirty", i, kind.got, "wanted", kind.want, what)
		}
		for _, n := range kind.want {
			if !slices.Contains(held, n) {
				t.Fatal("it did not stay", n, held, what)
			}
		}
	}
}

// P12.6: at most as many blocks as the room says; what is pinned or dirty stays; Load tells what was Put last, or what the volume has.
func TestWhatFollows(t *testing.T) {
	for _, room := range []int{1, 2, 3, 7, 20} {
		c, v, _ := fresh(t, 64, room)
		w := watch{room: room, put: map[int][]byte{}, pins: map[int]int{}, dirty: map[int]int{}}
		r := rand.New(rand.NewSource(int64(room)))
		busy := 0
		for step := range 6000 {
			n := 18 + r.Intn(2*room+2)
			what := fmt.Sprint(room, " ", step)
			switch r.Intn(10) {
			case 0, 1, 2, 3, 4:
				want := w.put[n]
				if want == nil {
					want, _ = v.Read(n)
				}
				switch b, err := c.Load(n); {
				case err == api.OK && bytes.Equal(b, want):
				case err == api.ErrBusy && b == nil && !slices.Contains(c.Held(), n) && len(stay(w)) == room:
					busy++
				default:
					t.Fatal("Load", n, err, what)
				}
			case 5:
				if c.Pin(n) == api.OK {
					w.pins[n]++
				}
			case 6:
				if (c.Unpin(n) == api.OK) != (w.pins[n] > 0) {
					t.Fatal("Unpin", n, what)
				}
				if w.pins[n]--; w.pins[n] <= 0 {
					delete(w.pins, n)
				}
			case 7:
				if b := mixed(step, 1); c.Put(n, b) == api.OK {
					w.put[n], w.dirty[n] = b, 1
				}
			case 8:
				if c.Drop(n) == api.OK {
					delete(w.dirty, n)
					delete(w.put, n)
				}
			case 9:
				if _, err := c.Commit(); err == api.OK {
					clear(w.dirty)
				} else if len(w.dirty) <= 15 {
					t.Fatal("Commit", err, what)
				}
			}
			w.keeps(t, c, what)
		}
		if busy == 0 && room < 10 { // in a great room so many seldom stay
			t.Fatal("the test itself", room)
		}
	}
}

// stay is the blocks that are pinned or dirty.
func stay(w watch) map[int]int {
	out := maps.Clone(w.pins)
	maps.Copy(out, w.dirty)
	return out
}
