package volume_test

import (
	"bytes"
	"math/rand"
	"testing"

	"ledgerstone/api"
	"ledgerstone/disk"
	"ledgerstone/volume"
)

// life is a disk, its volume, and what the blocks from Bits on were behind each commit.
type life struct {
	disk   *disk.Disk
	volume *volume.Volume // nil, if the disk is not mounted
	bits   int
	states [][]byte // by numbers; number 0 is what was there ahead of all commits
	synced int      // all up to that number was made to last
}

func newLife(t *testing.T, blocks int) *life {
	t.Helper()
	d := formatted(t, blocks)
	l := &life{disk: d, bits: layoutOf(blocks).Bits}
	l.states = [][]byte{bytes.Clone(d.Image()[4096*l.bits:])}
	return l
}

// copyOf is the same life on a disk of its own, not mounted.
func (l *life) copyOf(d *disk.Disk) *life {
	return &life{disk: d, bits: l.bits, states: l.states[:len(l.states):len(l.states)], synced: l.synced}
}

// stopped is whether err is that of a disk that was stopped; other errors may not be.
func stopped(t *testing.T, err api.Errno, what ...any) bool {
	t.Helper()
	if err != api.OK && err != api.ErrDown {
		t.Fatal(int(err), what)
	}
	return err == api.ErrDown
}

// step does one thing; false, if the power failed in it.
func (l *life) step(t *testing.T, s any) bool {
	t.Helper()
	switch s := s.(type) {
	case []api.Image:
		n, err := l.volume.Commit(s)
		if stopped(t, err, "Commit") {
			l.synced = max(l.synced, l.volume.Synced())
			return false
		}
		if n != len(l.states) {
			t.Fatal("number", n, "wanted", len(l.states))
		}
		now := bytes.Clone(l.states[n-1])
		for _, i := range s {
			copy(now[4096*(i.Block-l.bits):], i.Data)
		}
		l.states = append(l.states, now)
	case string:
		err := map[string]func() api.Errno{"sync": l.volume.Sync, "checkpoint": l.volume.Checkpoint}[s]()
		if stopped(t, err, s) {
			l.synced = max(l.synced, l.volume.Synced())
			return false
		}
		l.synced = len(l.states) - 1
	}
	if l.volume.Synced() < l.synced {
		t.Fatal("Synced", l.volume.Synced(), "wanted", l.synced)
	}
	l.synced = l.volume.Synced()
	return true
}

// mount mounts the disk; false, if the power failed in it. What is told must be what was there behind some commit, with all that was synced; what came behind that is gone.
func (l *life) mount(t *testing.T, what ...any) bool {
	t.Helper()
	v, err := volume.Mount(l.disk)
	if stopped(t, err, "Mount", what) {
		return false
	}
	n := v.Next() - 1
	if n < l.synced || n >= len(l.states) || v.Synced() != n {
		t.Fatal("mounted with", n, "commits; synced", l.synced, "committed", len(l.states)-1, what)
	}
	l.tells(t, v, n, what...)
	l.volume, l.synced = v, n
	l.states = l.states[: n+1 : n+1]
	return true
}

// tells is that v has the blocks that were there behind commit n.
func (l *life) tells(t *testing.T, v *volume.Volume, n int, what ...any) {
	t.Helper()
	for at := 0; at < len(l.states[n]); at += 4096 {
		b, err := v.Read(l.bits + at/4096)
		if err != api.OK || !bytes.Equal(b, l.states[n][at:at+4096]) {
			t.Fatal("block", l.bits+at/4096, "is not as behind commit", n, int(err), what)
		}
	}
}

// mountTwice mounts the disk, and once more, which tells the same; how many commits are there.
func (l *life) mountTwice(t *testing.T, what ...any) int {
	t.Helper()
	if !l.mount(t, what...) {
		t.Fatal("no power", what)
	}
	n := l.volume.Next()
	if !l.mount(t, what...) || l.volume.Next() != n {
		t.Fatal("mounted once more:", l.volume.Next(), "wanted", n, what)
	}
	return n - 1
}

// script is steps of a disk of 64 blocks that come round its ring, with checkpoints that are asked for and those that a full ring brings about.
func script() []any {
	return []any{
		some(1, 30, 2), some(2, 31, 1), "sync", some(3, 30, 3), some(4, 18, 2), "checkpoint", // 12 places
		some(5, 62, 2), some(6, 30, 4), some(7, 29, 4), "sync", // round the end
		some(8, 20, 6), some(9, 25, 9), // both with a checkpoint
		some(10, 30, 1), "sync", "checkpoint", "checkpoint", some(11, 33, 15), some(12, 18, 15), some(13, 40, 3), "sync",
	}
}

// play does steps till the power fails.
func (l *life) play(t *testing.T, steps []any) bool {
	t.Helper()
	for _, s := range steps {
		if !l.step(t, s) {
			return false
		}
	}
	return true
}

// started is a life that was played till the power failed, behind so many operations; false, if it did not.
func started(t *testing.T, start *life, steps []any, ops int) (*life, bool) {
	t.Helper()
	l := start.copyOf(start.disk.Copy())
	if !l.mount(t) {
		t.Fatal("no power")
	}
	l.disk.Arm(ops)
	return l, !l.play(t, steps)
}

// P11.6: a crash at each operation of commits, syncs and checkpoints.
func TestCrashAtEachOperation(t *testing.T) {
	start := newLife(t, 64)
	least, most, ops := 0, 0, 0
	for ; ; ops++ {
		l, cut := started(t, start, script(), ops)
		for i, c := range someCrashes(l.disk, ops) {
			n := l.copyOf(c).mountTwice(t, ops, i)
			if len(l.states)-1 > l.synced && n == l.synced {
				least++
			}
			if len(l.states)-1 > l.synced && n == len(l.states)-1 {
				most++
			}
		}
		if !cut {
			break
		}
	}
	if ops < 120 || least < 100 || most < 50 {
		t.Fatal("the test itself", ops, least, most)
	}
}

// P11.6: all crashes, whatever is kept, each write torn by any of some sets of sectors, of a few small commits and of a checkpoint of them.
func TestAllCrashesOfSmallGroups(t *testing.T) {
	sets := []uint8{0x01, 0x02, 0x08, 0x80, 0x7f, 0xbf, 0xf7, 0xfe, 0x0f, 0xf0, 0x2a, 0xd5}
	start := newLife(t, 64)
	steps := []any{some(1, 30, 1), "sync", some(2, 30, 1), some(3, 40, 2), "checkpoint", some(4, 30, 1), some(5, 31, 1), "sync"}
	seen := make(map[int]int)
	for ops := 0; ; ops++ {
		l, cut := started(t, start, steps, ops)
		allCrashes(l.disk, sets, func(c *disk.Disk) {
			k := l.copyOf(c)
			if !k.mount(t, ops) {
				t.Fatal("no power")
			}
			seen[k.volume.Next()-1]++
		})
		if !cut {
			break
		}
	}
	for n := range 6 {
		if seen[n] == 0 {
			t.Fatal("never", n, "commits", seen)
		}
	}
}

// P11.6: a crash at each operation of a Mount, and of the one behind that, and so on: what the first one would have told is told at last.
func TestCrashInMounts(t *testing.T) {
	start := newLife(t, 64)
	for ops := 0; ; ops += 11 {
		l, cut := started(t, start, script(), ops)
		for i, c := range someCrashes(l.disk, ops) {
			if i != 0 && i != 1+ops%8 { // none is kept, and another one
				continue
			}
			whole := l.copyOf(c.Copy()).mountTwice(t, ops, i)
			cutMounts(t, l.copyOf(c), whole, 2)
		}
		if !cut {
			return
		}
	}
}

// cutMounts cuts a Mount at each operation, and mounts what some crashes leave of it, cut again as often as left says: so many commits are told each time.
func cutMounts(t *testing.T, l *life, whole, left int) {
	t.Helper()
	for ops := 0; ; ops++ {
		begun := l.copyOf(l.disk.Copy())
		begun.disk.Arm(ops)
		if begun.mount(t, ops) {
			return
		}
		crashes := someCrashes(begun.disk, ops)
		for i, c := range crashes {
			if left == 1 && i%3 != ops%3 {
				continue
			}
			if n := l.copyOf(c.Copy()).mountTwice(t, ops, i, left); n != whole {
				t.Fatal("cut, and", n, "commits are told; wanted", whole)
			}
		}
		if left > 1 {
			cutMounts(t, l.copyOf(crashes[ops%len(crashes)]), whole, left-1)
		}
	}
}

// chanceImages is what may be committed, by chance.
func (l *life) chanceImages(chance *rand.Rand) []api.Image {
	blocks := l.disk.Size()
	count := 1 + chance.Intn(6)
	if chance.Intn(4) == 0 {
		count = 1 + chance.Intn(min(32, layoutOf(blocks).LogBlocks-1))
	}
	var images []api.Image
	for _, n := range chance.Perm(blocks - l.bits)[:count] {
		images = append(images, image(l.bits+n, mixed(chance.Int(), 1)))
	}
	return images
}

// chanceStep is a thing to do, by chance.
func (l *life) chanceStep(chance *rand.Rand) any {
	switch chance.Intn(8) {
	case 0:
		return "sync"
	case 1:
		return "checkpoint"
	}
	return l.chanceImages(chance)
}

// chanceArm has the power fail, or not, behind some operations.
func (l *life) chanceArm(chance *rand.Rand, most int) {
	if chance.Intn(2) == 0 {
		l.disk.Arm(chance.Intn(most))
	}
}

// keepsAll is that the disk with all its unflushed writes tells all commits, also if the power failed in the midst of one more.
func (l *life) keepsAll(t *testing.T, what ...any) {
	t.Helper()
	v := mount(t, load(t, l.disk.Image()))
	if v.Next() != len(l.states) || l.volume.Next() != len(l.states) {
		t.Fatal("with all writes there are", v.Next()-1, "commits; wanted", len(l.states)-1, what)
	}
	l.tells(t, v, v.Next()-1, what...)
}

// P11.6: long lives on disks of several sizes, with crashes, by chance, in all that is done, each mounted again and used on.
func TestLivesByChance(t *testing.T) {
	chance := rand.New(rand.NewSource(6))
	lost, cuts := 0, 0
	for round := range 150 {
		l := newLife(t, []int{64, 64, 64, 65, 136, 264, 512}[chance.Intn(7)])
		for range 8 {
			had := len(l.states)
			for !l.mount(t, round) {
				cuts++
				l.disk = chanceCrash(l.disk, chance)
				l.chanceArm(chance, 20)
			}
			if len(l.states) < had {
				lost++
			}
			l.disk.Arm(chance.Intn(100))
			for range chance.Intn(40) {
				if !l.step(t, l.chanceStep(chance)) {
					break
				}
			}
			l.keepsAll(t, round)
			l.disk = chanceCrash(l.disk, chance)
			l.copyOf(l.disk.Copy()).mountTwice(t, round)
			l.chanceArm(chance, 20)
		}
	}
	if lost < 200 || cuts < 200 {
		t.Fatal("the test itself", lost, cuts)
	}
}

// P11.6: groups of an epoch ahead that still lie in the ring do not come back, though the one of the new epoch ahead of them has the same number and length as theirs had.
func TestOldEpochsStayAway(t *testing.T) {
	d := formatted(t, 64)
	v := mount(t, d)
	commits(t, v, some(1, 30, 2), 1, api.OK)
	commits(t, v, some(2, 40, 2), 2, api.OK)
	d.Crash([]bool{false, true, true, true, true, true}, -1, 0) // the first one's head is lost, the second group is whole
	v = mount(t, d)
	numbers(t, v, 1, 0)
	was, _ := v.Read(40)
	commits(t, v, some(3, 30, 2), 1, api.OK)
	if err := v.Sync(); err != api.OK {
		t.Fatal(err)
	}
	for range 3 {
		d.Crash(nil, -1, 0)
		v = mount(t, d)
		numbers(t, v, 2, 1)
		reads(t, v, 30, some(3, 30, 2)[0].Data)
		reads(t, v, 40, was)
	}
}

// P11.6: groups that a checkpoint let go do not come back, though they lie where the next ones are looked for.
func TestOldGroupsStayAway(t *testing.T) {
	d := formatted(t, 64)
	v := mount(t, d)
	for i := range 4 { // 16 places
		commits(t, v, some(i+1, 30, 3), i+1, api.OK)
	}
	if err := v.Checkpoint(); err != api.OK {
		t.Fatal(err)
	}
	commits(t, v, some(5, 30, 3), 5, api.OK)
	c := d.Copy()
	c.Crash(nil, -1, 0)
	w := mount(t, c)
	numbers(t, w, 5, 4)
	reads(t, w, 30, some(4, 30, 3)[0].Data)
	d.Flush()
	d.Crash(nil, -1, 0)
	v = mount(t, d)
	numbers(t, v, 6, 5)
	reads(t, v, 30, some(5, 30, 3)[0].Data)
}

// P11.2, P11.6: each Mount is an epoch more; its groups bear that, and mounting many times tells the same.
func TestMountManyTimes(t *testing.T) {
	d := formatted(t, 64)
	v := mount(t, d)
	commits(t, v, some(1, 30, 3), 1, api.OK)
	if err := v.Sync(); err != api.OK {
		t.Fatal(err)
	}
	for epoch := 3; epoch < 40; epoch++ {
		p, err := mountPair(t, d, epoch)
		if err != api.OK {
			t.Fatal(epoch, err)
		}
		d = p.disk
		s, slot := counting(d.Image())
		if s != (api.Super{Blocks: 64, Epoch: epoch, Seq: 2, Tail: 4}) || slot != epoch%2^1 {
			t.Fatal(epoch, s, slot)
		}
		numbers(t, p.volume, 2, 1)
		for _, i := range some(1, 30, 3) {
			reads(t, p.volume, i.Block, i.Data, epoch)
		}
	}
}

// P11.6: many commits, each synced and lost or not: numbers go on through many mounts, and the ring comes round many times.
func TestLongLife(t *testing.T) {
	l := newLife(t, 64)
	chance := rand.New(rand.NewSource(7))
	for range 40 {
		if !l.mount(t) {
			t.Fatal("no power")
		}
		for range 10 {
			l.step(t, l.chanceImages(chance))
		}
		l.step(t, "sync")
		l.step(t, l.chanceImages(chance))
		l.disk.Crash(nil, -1, 0)
	}
	if n := l.mountTwice(t); n != 400 {
		t.Fatal(n)
	}
}
