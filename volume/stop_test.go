package volume_test

import (
	"fmt"
	"testing"

	"ledgerstone/api"
)

// scene is calls, and one more that is stopped at each of its operations.
type scene struct {
	name  string
	ahead []call
	last  call
	ops   int // how many operations the last one does
}

// scenes of a disk of 64 blocks, whose ring has 16.
func scenes() []scene {
	full := []call{commit(some(1, 30, 7)), commit(some(2, 33, 7))}
	return []scene{
		{"a commit", nil, commit(some(1, 30, 3)), 4},
		{"the greatest commit", []call{commit(some(1, 30, 1)), checkpoint()}, commit(some(2, 30, 15)), 16},
		{"a commit round the end", []call{commit(some(1, 30, 13)), checkpoint()}, commit(some(2, 31, 4)), 5},
		{"a commit with a checkpoint", full, commit(some(3, 20, 2)), 1 + 10 + 3 + 3},
		{"a commit with a checkpoint of what lasts", append(full, sync()), commit(some(3, 20, 2)), 1 + 10 + 3 + 3},
		{"a sync of nothing", nil, sync(), 1},
		{"a sync", []call{commit(some(1, 30, 3)), commit(some(2, 30, 3))}, sync(), 1},
		{"a checkpoint of nothing", nil, checkpoint(), 4},
		{"a checkpoint", []call{commit(some(1, 30, 3)), sync(), commit(some(2, 32, 3))}, checkpoint(), 1 + 5 + 3},
		{"a checkpoint behind one", []call{commit(some(1, 30, 3)), checkpoint(), commit(some(2, 32, 3))}, checkpoint(), 1 + 3 + 3},
	}
}

// P11.4, P11.5: the power fails, or one operation does, at each operation of Commit, Sync and Checkpoint: that is the error, nothing behind it is done, and the volume is broken.
func TestStopsAtEachOperation(t *testing.T) {
	for _, s := range scenes() {
		for _, stop := range stops() {
			for k := range s.ops + 2 {
				p := open(t, 64)
				p.askAll(t, s.ahead...)
				next := p.volume.Next()
				stop.set(p.disk, k)
				stop.set(p.model.disk, k)
				err := p.ask(t, s.last, s.name, stop.name, k)
				want := api.OK
				if k < s.ops {
					want = stop.want
				}
				if err != want || p.volume.Broken() != (want != api.OK) {
					t.Fatal(s.name, stop.name, k, err, p.volume.Broken())
				}
				if want != api.OK && p.volume.Next() != next {
					t.Fatal(s.name, stop.name, k, "a number was given away")
				}
				if want != api.OK {
					staysBroken(t, p, s.name, stop.name, k)
				}
			}
		}
	}
}

// staysBroken is that each call of a volume that is broken answers so, does nothing to the disk, and that Next, Synced, Layout and Fits tell what they told.
func staysBroken(t *testing.T, p pair, what ...any) {
	t.Helper()
	writes := p.disk.Writes()
	for range 2 {
		for _, c := range []call{commit(some(5, 40, 2)), commit(nil), sync(), checkpoint()} {
			if err := p.ask(t, c, what...); err != api.ErrIO {
				t.Fatal(c.name, err, what)
			}
		}
		for _, n := range []int{-1, 0, 30, 63, 64} {
			if b, err := p.volume.Read(n); b != nil || err != api.ErrIO {
				t.Fatal("Read", n, err, what)
			}
		}
	}
	if p.disk.Writes() != writes || !p.volume.Broken() {
		t.Fatal("broken, and it goes on", what)
	}
}

// P11.4, P11.6: behind one operation that failed the disk is mounted without a crash, and tells all that was committed: the commit that failed is not there.
func TestMountBehindABrokenVolume(t *testing.T) {
	for _, s := range scenes() {
		for k := range s.ops {
			p := open(t, 64)
			p.askAll(t, s.ahead...)
			var blocks [][]byte
			for n := 18; n < 64; n++ {
				b, err := p.volume.Read(n)
				if err != api.OK {
					t.Fatal(err)
				}
				blocks = append(blocks, b)
			}
			next := p.volume.Next()
			p.disk.Fail(k)
			p.model.disk.Fail(k)
			if err := p.ask(t, s.last, s.name, k); err != api.ErrIO {
				t.Fatal(s.name, k, err)
			}
			again, err := mountPair(t, p.disk, s.name, k)
			if err != api.OK || again.volume.Next() != next || again.volume.Broken() {
				t.Fatal(s.name, k, err, again.volume.Next())
			}
			for i, want := range blocks {
				reads(t, again.volume, 18+i, want, s.name, k)
			}
		}
	}
}

// P11.5: what Next, Synced and Broken tell behind each call, by their words.
func TestNumbersBehindEachCall(t *testing.T) {
	d := formatted(t, 64)
	v := mount(t, d)
	told := func() string { return fmt.Sprint(v.Next(), v.Synced(), v.Broken()) }
	for i, step := range []struct {
		do   func()
		want string
	}{
		{func() {}, "1 0 false"},
		{func() { v.Sync() }, "1 0 false"},
		{func() { v.Checkpoint() }, "1 0 false"},
		{func() { v.Commit(nil) }, "1 0 false"},
		{func() { v.Commit(some(1, 30, 3)) }, "2 0 false"},
		{func() { v.Read(30) }, "2 0 false"},
		{func() { v.Commit(some(2, 17, 3)) }, "2 0 false"},
		{func() { v.Commit(some(2, 30, 3)) }, "3 0 false"},
		{func() { v.Sync() }, "3 2 false"},
		{func() { v.Commit(some(3, 30, 3)) }, "4 2 false"},
		{func() { v.Checkpoint() }, "4 3 false"},
		{func() { v.Commit(some(4, 30, 15)) }, "5 3 false"},
		{func() { v.Commit(some(5, 30, 1)) }, "6 4 false"}, // with a checkpoint
		{func() { v = mount(t, d) }, "6 5 false"},
		{func() { v.Commit(some(6, 30, 15)) }, "7 5 false"},
		{func() { d.Fail(3); v.Commit(some(7, 30, 1)) }, "7 6 true"}, // its checkpoint's flush was done
		{func() { v.Sync() }, "7 6 true"},
		{func() { v = mount(t, d) }, "7 6 false"},
		{func() { v.Commit(some(8, 30, 2)) }, "8 6 false"},
		{func() { d.Arm(0); v.Sync() }, "8 6 true"},
		{func() { d.Crash(nil, -1, 0); v.Sync() }, "8 6 true"},
		{func() { v = mount(t, d) }, "7 6 false"},
	} {
		step.do()
		if told() != step.want {
			t.Fatal(i, told(), "wanted", step.want)
		}
	}
}
