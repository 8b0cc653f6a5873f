package volume_test

import (
	"bytes"
	"math"
	"slices"
	"testing"

	"ledgerstone/api"
	"ledgerstone/disk"
	"ledgerstone/volume"
)

// reads is that block n of v is want.
func reads(t *testing.T, v *volume.Volume, n int, want []byte, what ...any) {
	t.Helper()
	if b, err := v.Read(n); err != api.OK || !bytes.Equal(b, want) {
		t.Fatal("Read", n, int(err), what)
	}
}

// numbers is that Next and Synced are these, and that v is not broken.
func numbers(t *testing.T, v *volume.Volume, next, synced int) {
	t.Helper()
	if v.Next() != next || v.Synced() != synced || v.Broken() {
		t.Fatal(v.Next(), v.Synced(), v.Broken(), "wanted", next, synced)
	}
}

// commits is that Commit answers that number and error.
func commits(t *testing.T, v *volume.Volume, l []api.Image, seq int, want api.Errno, what ...any) {
	t.Helper()
	if n, err := v.Commit(l); n != seq || err != want {
		t.Fatal("Commit", n, int(err), "wanted", seq, int(want), what)
	}
}

// The chapter's examples.
func TestExamples(t *testing.T) {
	A, B, noughts := filled(0x61), filled(0x62), make([]byte, 4096)
	two := []api.Image{image(30, A), image(31, B)}
	d := newDisk(t, 64)
	if v, err := volume.Mount(d); v != nil || err != api.ErrImage || d.Writes() != 0 {
		t.Fatal(err, d.Writes())
	}
	if err := volume.Format(d); err != api.OK {
		t.Fatal(err)
	}
	v := mount(t, d)
	numbers(t, v, 1, 0)
	reads(t, v, 30, noughts)
	commits(t, v, two, 1, api.OK)
	reads(t, v, 30, A)
	reads(t, v, 31, B)
	d.Crash(nil, -1, 0)
	v = mount(t, d)
	reads(t, v, 30, noughts)
	numbers(t, v, 1, 0)
	commits(t, v, two, 1, api.OK)
	if err := v.Sync(); err != api.OK {
		t.Fatal(err)
	}
	d.Crash(nil, -1, 0)
	v = mount(t, d)
	reads(t, v, 30, A)
	numbers(t, v, 2, 1)
	commits(t, v, []api.Image{image(17, A)}, 0, api.ErrBlock)
	commits(t, v, []api.Image{image(64, A)}, 0, api.ErrBlock)
	commits(t, v, some(1, 30, 16), 0, api.ErrLogFull)
	numbers(t, v, 2, 1)
}

// P11.3: the layout is the disk's, of each size, whatever becomes of the volume.
func TestLayout(t *testing.T) {
	for _, blocks := range sizes {
		d := formatted(t, blocks)
		v := mount(t, d)
		if v.Layout() != layoutOf(blocks) {
			t.Fatal(blocks, v.Layout())
		}
		d.Arm(0)
		if err := v.Sync(); err != api.ErrDown || !v.Broken() || v.Layout() != layoutOf(blocks) {
			t.Fatal(blocks, err, v.Layout())
		}
	}
}

// P11.3: Read of blocks below 0, of all that there are, and past the end.
func TestRead(t *testing.T) {
	for _, blocks := range []int{64, 136, 512} {
		p := open(t, blocks)
		was := p.disk.Image()
		for n := range blocks {
			reads(t, p.volume, n, block(was, n), blocks)
		}
		for _, n := range []int{math.MinInt, -1 << 32, -blocks, -2, -1, blocks, blocks + 1, 512, 513, 1 << 32, 1<<32 + 30, math.MaxInt} {
			if b, err := p.volume.Read(n); b != nil || err != api.ErrBlock {
				t.Fatal(blocks, n, err)
			}
		}
	}
}

// P11.3: Read of a block that was committed, committed again, checkpointed, and never written, through a Mount too.
func TestReadTellsTheLastCommit(t *testing.T) {
	d := formatted(t, 64)
	was := d.Image()
	v := mount(t, d)
	check := func(want map[int][]byte) {
		t.Helper()
		for n := 2; n < 64; n++ {
			switch {
			case want[n] != nil:
				reads(t, v, n, want[n])
			case n >= 18: // the ring has other bytes
				reads(t, v, n, block(was, n))
			}
		}
	}
	a, b, c := mixed(1, 1), mixed(2, 1), mixed(3, 1)
	commits(t, v, []api.Image{image(18, a), image(63, b)}, 1, api.OK)
	check(map[int][]byte{18: a, 63: b})
	if got, _ := d.Read(63); bytes.Equal(got, b) {
		t.Fatal("at its place ahead of a checkpoint")
	}
	commits(t, v, []api.Image{image(63, c), image(40, a)}, 2, api.OK)
	check(map[int][]byte{18: a, 63: c, 40: a})
	if err := v.Checkpoint(); err != api.OK {
		t.Fatal(err)
	}
	check(map[int][]byte{18: a, 63: c, 40: a})
	if !bytes.Equal(block(lasts(d), 63), c) {
		t.Fatal("not at its place behind a checkpoint")
	}
	commits(t, v, []api.Image{image(18, b)}, 3, api.OK)
	check(map[int][]byte{18: b, 63: c, 40: a})
	if err := v.Sync(); err != api.OK {
		t.Fatal(err)
	}
	check(map[int][]byte{18: b, 63: c, 40: a})
	v = mount(t, d)
	check(map[int][]byte{18: b, 63: c, 40: a})
	commits(t, v, []api.Image{image(40, was[:4096])}, 4, api.OK)
	check(map[int][]byte{18: b, 63: c, 40: was[:4096]})
}

// P11.3: Read with the power gone: the disk's error, which does not break the volume; what was committed needs no disk.
func TestReadWithoutPower(t *testing.T) {
	d := formatted(t, 64)
	v := mount(t, d)
	commits(t, v, []api.Image{image(30, filled(7))}, 1, api.OK)
	d.Arm(0)
	d.Flush()
	for range 2 {
		for _, n := range []int{0, 2, 18, 29, 63} {
			if b, err := v.Read(n); b != nil || err != api.ErrDown {
				t.Fatal(n, err)
			}
		}
		for _, n := range []int{-1, 64} {
			if b, err := v.Read(n); b != nil || err != api.ErrBlock {
				t.Fatal(n, err)
			}
		}
		reads(t, v, 30, filled(7))
		numbers(t, v, 2, 0)
	}
}

// P11.3: Fits of all small counts and of far ones, on rings of each size; how full the ring is does not matter, nor that it is broken.
func TestFits(t *testing.T) {
	for _, blocks := range sizes {
		d := formatted(t, blocks)
		v := mount(t, d)
		check := func() {
			t.Helper()
			for n := -3; n <= 70; n++ {
				want := n >= 1 && n <= 32 && n+1 <= layoutOf(blocks).LogBlocks
				if v.Fits(n) != want {
					t.Fatal(blocks, n, v.Fits(n))
				}
			}
			for _, n := range []int{math.MinInt, -1 << 32, 1 << 16, 1<<32 + 1, math.MaxInt - 1, math.MaxInt} {
				if v.Fits(n) {
					t.Fatal(blocks, n)
				}
			}
		}
		check()
		commits(t, v, some(1, layoutOf(blocks).Bits, 15), 1, api.OK)
		check()
		d.Arm(0)
		v.Sync()
		check()
	}
	if v := mount(t, formatted(t, 64)); !v.Fits(15) || v.Fits(16) {
		t.Fatal("a ring of 16")
	}
	if v := mount(t, formatted(t, 264)); !v.Fits(32) || v.Fits(33) {
		t.Fatal("a ring of 33")
	}
}

// P11.3, P11.4: what Fits is committed, even if the ring is full; what does not is refused, and nothing is changed.
func TestCommitOfCounts(t *testing.T) {
	for _, blocks := range sizes {
		p := open(t, blocks)
		bits := layoutOf(blocks).Bits
		for _, count := range []int{0, 1, 2, 14, 15, 16, 17, 30, 31, 32, 33, 34, 40} {
			for range 2 {
				want := api.OK
				switch {
				case count < 1 || count > 32:
					want = api.ErrGroup
				case count+1 > layoutOf(blocks).LogBlocks:
					want = api.ErrLogFull
				}
				if err := p.ask(t, commit(some(count, bits, count)), blocks, count); err != want {
					t.Fatal(blocks, count, err)
				}
				if p.volume.Fits(count) != (want == api.OK) {
					t.Fatal(blocks, count, "fits")
				}
			}
			p.sameBlocks(t, blocks, count)
		}
	}
}

// refusesCommit is that Commit is refused, and that no number, block or write has changed by it.
func refusesCommit(t *testing.T, p pair, l []api.Image, want api.Errno, what ...any) {
	t.Helper()
	writes, pending := p.disk.Writes(), p.disk.Pending()
	next, synced := p.volume.Next(), p.volume.Synced()
	if err := p.ask(t, commit(l), what...); err != want {
		t.Fatal(int(err), "wanted", int(want), what)
	}
	if p.disk.Writes() != writes || !slices.Equal(p.disk.Pending(), pending) || p.volume.Next() != next || p.volume.Synced() != synced || p.volume.Broken() {
		t.Fatal("refused, and changed", what)
	}
}

// P11.4: images of blocks ahead of Bits and from Blocks on, anywhere among others.
func TestCommitOfBlocks(t *testing.T) {
	for _, blocks := range []int{64, 136, 512} {
		p := open(t, blocks)
		l := layoutOf(blocks)
		for _, n := range []int{math.MinInt, -1 << 32, -1, 0, 1, 2, 17, l.Bits - 1, blocks, blocks + 1, 512, 1<<32 + 30, math.MaxInt} {
			for at := range 4 {
				refusesCommit(t, p, slices.Insert(some(1, l.Bits, 3), at, image(n, filled(1))), api.ErrBlock, blocks, n, at)
			}
			refusesCommit(t, p, []api.Image{image(n, filled(1))}, api.ErrBlock, blocks, n)
		}
		for _, n := range []int{l.Bits, l.Inodes, l.Data - 1, l.Data, blocks - 1} {
			if err := p.ask(t, commit([]api.Image{image(n, filled(1))}), n); err != api.OK {
				t.Fatal(blocks, n, err)
			}
		}
		p.sameBlocks(t, blocks)
	}
}

// P11.4: images that no group may have: none, too many, the same block twice, Data of other lengths.
func TestCommitOfNoGroup(t *testing.T) {
	for _, blocks := range []int{64, 512} {
		p := open(t, blocks)
		from := layoutOf(blocks).Bits
		refusesCommit(t, p, nil, api.ErrGroup)
		refusesCommit(t, p, []api.Image{}, api.ErrGroup)
		refusesCommit(t, p, some(1, from, 33), api.ErrGroup)
		refusesCommit(t, p, slices.Repeat(some(1, from, 1), 5000), api.ErrGroup)
		for at := range 4 {
			for again := range 3 {
				refusesCommit(t, p, slices.Insert(some(1, from, 3), at, image(from+again, filled(1))), api.ErrGroup, at, again)
			}
			for _, length := range []int{0, 1, 512, 4095, 4097, 8192} {
				refusesCommit(t, p, slices.Insert(some(1, from, 3), at, image(from+20, make([]byte, length))), api.ErrGroup, at, length)
			}
			refusesCommit(t, p, slices.Insert(some(1, from, 3), at, image(from+20, nil)), api.ErrGroup, at)
			refusesCommit(t, p, slices.Insert(some(1, from, 3), at, image(from+20, make([]byte, 4095, 4096))), api.ErrGroup, at)
		}
		p.ask(t, commit([]api.Image{image(from+20, make([]byte, 4096, 4097))}))
		p.sameBlocks(t)
	}
}

// Errors: of several that a Commit could tell the one that stands first counts.
func TestCommitOrderOfErrors(t *testing.T) {
	p := open(t, 64)
	outside, short := image(17, filled(1)), image(40, make([]byte, 4095))
	for _, more := range [][]api.Image{{short}, {short, short}, some(1, 20, 16), some(1, 20, 33), {image(40, nil), image(40, nil)}} {
		refusesCommit(t, p, append(slices.Clone(more), outside), api.ErrBlock)
		refusesCommit(t, p, append([]api.Image{image(64, nil)}, more...), api.ErrBlock)
	}
	refusesCommit(t, p, append(some(1, 20, 16), short), api.ErrGroup)
	refusesCommit(t, p, append(some(1, 20, 16), image(20, filled(1))), api.ErrGroup)
	refusesCommit(t, p, some(1, 20, 33), api.ErrGroup)
	refusesCommit(t, p, some(1, 20, 32), api.ErrLogFull)
	refusesCommit(t, p, some(1, 20, 16), api.ErrLogFull)
	for _, stop := range stops() { // they come ahead of the disk's, and ahead of a checkpoint
		p := open(t, 64)
		p.ask(t, commit(some(1, 20, 15)))
		stop.set(p.disk, 0)
		stop.set(p.model.disk, 0)
		refusesCommit(t, p, []api.Image{outside}, api.ErrBlock)
		refusesCommit(t, p, []api.Image{short}, api.ErrGroup)
		refusesCommit(t, p, nil, api.ErrGroup)
		refusesCommit(t, p, some(1, 20, 16), api.ErrLogFull)
		if err := p.ask(t, commit(some(1, 20, 1))); err != stop.want {
			t.Fatal(stop.name, err)
		}
		// And ErrIO, of a volume that is broken, ahead of all of them.
		for _, l := range [][]api.Image{nil, {outside}, {short}, some(1, 20, 16), some(1, 20, 1)} {
			if n, err := p.volume.Commit(l); n != 0 || err != api.ErrIO {
				t.Fatal(stop.name, n, err)
			}
		}
		for _, n := range []int{-1, 0, 20, 30, 64} {
			if b, err := p.volume.Read(n); b != nil || err != api.ErrIO {
				t.Fatal(stop.name, n, err)
			}
		}
	}
}

// P11.4: a Commit writes its group behind the last one, and nothing else, as long as there is room.
func TestCommitWritesItsGroup(t *testing.T) {
	d := formatted(t, 64)
	v := mount(t, d)
	var want []int
	at := 0
	for i, count := range []int{3, 1, 5} {
		commits(t, v, some(i, 30, count), i+1, api.OK)
		for range count + 1 {
			want = append(want, 2+at)
			at++
		}
		if !slices.Equal(d.Pending(), want) {
			t.Fatal(i, d.Pending(), want)
		}
		numbers(t, v, i+2, 0)
	}
}

// P11.4: a ring that is just full makes no checkpoint; the next Commit does, ahead of its group, which goes on at the ring's beginning.
func TestCommitOfAFullRing(t *testing.T) {
	p := open(t, 64)
	p.ask(t, commit(some(1, 30, 7)))
	p.ask(t, commit(some(2, 35, 7)))
	if p.disk.Writes() != 1+16 || len(p.disk.Pending()) != 16 || p.volume.Synced() != 0 {
		t.Fatal(p.disk.Writes(), p.disk.Pending())
	}
	was := p.disk.Image()
	p.ask(t, commit(some(3, 20, 2)))
	// 12 blocks go home, then a superblock, then the group of 3 blocks.
	if p.disk.Writes() != 17+12+1+3 || !slices.Equal(p.disk.Pending(), []int{2, 3, 4}) || p.volume.Synced() != 2 {
		t.Fatal(p.disk.Writes(), p.disk.Pending(), p.volume.Synced())
	}
	wrote(t, p, was, 0, api.Super{Blocks: 64, Epoch: 2, Seq: 3, Tail: 0})
	p.sameBlocks(t)
	if p.volume.Next() != 4 {
		t.Fatal(p.volume.Next())
	}
}

// P11.4: a ring that has room for less than a group makes a checkpoint, even for one block; its groups go round its end.
func TestCommitGoesRound(t *testing.T) {
	for _, blocks := range []int{64, 136, 264} {
		places := layoutOf(blocks).LogBlocks
		for _, count := range []int{1, 2, 4, 6, 15} {
			p := open(t, blocks)
			round, at, used, checkpoints := 0, 0, 0, 0
			for i := range 40 {
				p.ask(t, commit(some(i, layoutOf(blocks).Bits+i%5, count)), blocks, count, i)
				if used+count+1 > places {
					used = 0
					checkpoints++
				}
				used += count + 1
				if at += count + 1; at > places {
					round++
					at -= places
				}
			}
			if round == 0 && places%(count+1) != 0 || checkpoints == 0 {
				t.Fatal("the test itself", blocks, count, round, checkpoints)
			}
			supers := p.disk.Image()[:2*4096]
			if s, _ := counting(supers); s.Seq == 1 || s.Epoch != 2 {
				t.Fatal(s)
			}
			p.sameBlocks(t, blocks, count)
			for i, c := range someCrashes(p.disk, count) {
				mountPair(t, c, blocks, count, i)
			}
		}
	}
}

// P11.4, P11.5: Sync with nothing to do, with something, and twice: one flush, and nothing is written.
func TestSync(t *testing.T) {
	p := open(t, 64)
	p.askAll(t, sync(), sync())
	numbers(t, p.volume, 1, 0)
	p.askAll(t, commit(some(1, 30, 2)), commit(some(2, 30, 2)))
	numbers(t, p.volume, 3, 0)
	writes := p.disk.Writes()
	p.ask(t, sync())
	numbers(t, p.volume, 3, 2)
	p.ask(t, sync())
	numbers(t, p.volume, 3, 2)
	p.ask(t, commit(some(3, 30, 2)))
	numbers(t, p.volume, 4, 2)
	if p.disk.Writes() != writes+3 || len(p.disk.Pending()) != 3 {
		t.Fatal(p.disk.Writes(), p.disk.Pending())
	}
	p.sameBlocks(t)
	// One flush each time: of two operations that are let through the second one is the next Sync's.
	p.askAll(t, arm(2), sync(), sync())
	if err := p.ask(t, sync()); err != api.ErrDown {
		t.Fatal(err)
	}
}

// P11.4, P11.5: Checkpoint with nothing to do, with something, and twice: what it writes, and into which slot.
func TestCheckpoint(t *testing.T) {
	p := open(t, 64) // its Mount wrote slot 1
	steps := []struct {
		commits int
		slot    int
		s       api.Super
	}{
		{0, 0, api.Super{Blocks: 64, Epoch: 2, Seq: 1, Tail: 0}},
		{0, 1, api.Super{Blocks: 64, Epoch: 2, Seq: 1, Tail: 0}}, // of two that are alike slot 0 counts
		{0, 1, api.Super{Blocks: 64, Epoch: 2, Seq: 1, Tail: 0}},
		{1, 1, api.Super{Blocks: 64, Epoch: 2, Seq: 2, Tail: 3}},
		{2, 0, api.Super{Blocks: 64, Epoch: 2, Seq: 4, Tail: 9}},
		{0, 1, api.Super{Blocks: 64, Epoch: 2, Seq: 4, Tail: 9}},
		{1, 1, api.Super{Blocks: 64, Epoch: 2, Seq: 5, Tail: 12}},
		{1, 0, api.Super{Blocks: 64, Epoch: 2, Seq: 6, Tail: 15}},
		{1, 1, api.Super{Blocks: 64, Epoch: 2, Seq: 7, Tail: 2}},
	}
	for i, step := range steps {
		for n := range step.commits {
			p.ask(t, commit(some(10*i+n, 40+i, 2)))
		}
		was := p.disk.Image()
		images := min(step.commits, 1) * 2
		writes := p.disk.Writes()
		p.ask(t, checkpoint(), i)
		wrote(t, p, was, step.slot, step.s, i)
		if p.disk.Writes() != writes+images+1 || len(p.disk.Pending()) != 0 {
			t.Fatal(i, p.disk.Writes(), p.disk.Pending())
		}
		numbers(t, p.volume, step.s.Seq, step.s.Seq-1)
		p.sameBlocks(t, i)
	}
}

// P11.4: the slot that a checkpoint with nothing to do writes can be seen when its last flush fails.
func TestCheckpointOfAlikeSuperblocks(t *testing.T) {
	for mounts := 1; mounts <= 4; mounts++ {
		for idle := range 4 {
			d := formatted(t, 64)
			for range mounts - 1 {
				mount(t, d)
			}
			p, _ := mountPair(t, d)
			for range idle {
				p.ask(t, checkpoint())
			}
			p.ask(t, arm(3))
			if err := p.ask(t, checkpoint(), mounts, idle); err != api.ErrDown {
				t.Fatal(err)
			}
			want := 1 // of two that are alike slot 0 counts
			if idle == 0 && mounts%2 == 1 {
				want = 0
			}
			if !slices.Equal(p.disk.Pending(), []int{want}) {
				t.Fatal(mounts, idle, p.disk.Pending())
			}
		}
	}
}

// P11.4: a checkpoint puts each block home as it is now, once, by rising blocks, and lets all groups go: the ring has all its room again.
func TestCheckpointEmptiesTheRing(t *testing.T) {
	p := open(t, 64)
	p.askAll(t, commit([]api.Image{image(50, filled(1)), image(30, filled(2))}), commit([]api.Image{image(30, filled(3)), image(20, filled(4)), image(63, filled(5))}))
	p.ask(t, arm(1+4))
	if err := p.ask(t, checkpoint()); err != api.ErrDown || !slices.Equal(p.disk.Pending(), []int{20, 30, 50, 63}) {
		t.Fatal(err, p.disk.Pending())
	}
	p = open(t, 64)
	p.askAll(t, commit(some(1, 30, 5)), checkpoint())
	writes := p.disk.Writes()
	p.ask(t, commit(some(2, 30, 15)))
	if p.disk.Writes() != writes+16 || len(p.disk.Pending()) != 16 {
		t.Fatal("another checkpoint", p.disk.Writes(), p.disk.Pending())
	}
	// What was put home once is not put home again.
	p.ask(t, checkpoint())
	writes = p.disk.Writes()
	p.askAll(t, commit(some(3, 60, 1)), checkpoint())
	if p.disk.Writes() != writes+2+1+1 {
		t.Fatal(p.disk.Writes() - writes)
	}
}

// P11.4: the last number is committed; then the numbers are at their end: an append, or a superblock that may not be, breaks the volume.
func TestTheLastNumber(t *testing.T) {
	s := api.Super{Blocks: 64, Epoch: 1, Seq: 1 << 39, Tail: 3}
	last := func() pair {
		p := mounts(t, crafted(t, 64, s, api.Super{}, 0))
		p.askAll(t, sync(), checkpoint(), commit(some(1, 30, 9)), sync())
		numbers(t, p.volume, 1<<39+1, 1<<39)
		return p
	}
	p := last()
	if err := p.ask(t, commit(some(2, 30, 1))); err != api.ErrGroup || !p.volume.Broken() {
		t.Fatal(err)
	}
	p = last()
	if err := p.ask(t, checkpoint()); err != api.ErrArg || !p.volume.Broken() {
		t.Fatal(err)
	}
	p = last()
	if err := p.ask(t, commit(some(2, 30, 9))); err != api.ErrArg || !p.volume.Broken() {
		t.Fatal(err)
	}
}

// notVolumes are volumes that Mount did not make, and none.
func notVolumes(t *testing.T) []*volume.Volume {
	t.Helper()
	copied := *mount(t, formatted(t, 64))
	return []*volume.Volume{nil, {}, new(volume.Volume), &copied}
}

// R5: each call of a volume that is nil, or that Mount did not make, whatever the arguments are.
func TestNoVolume(t *testing.T) {
	for i, v := range notVolumes(t) {
		for _, n := range []int{math.MinInt, -1, 0, 1, 15, 30, 64, math.MaxInt} {
			if b, err := v.Read(n); b != nil || err != api.ErrNil {
				t.Error(i, n, err)
			}
			if v.Fits(n) {
				t.Error(i, n)
			}
		}
		for _, l := range [][]api.Image{nil, some(1, 30, 1), some(1, 30, 16), some(1, 30, 33), {image(-1, nil)}} {
			if n, err := v.Commit(l); n != 0 || err != api.ErrNil {
				t.Error(i, n, err)
			}
		}
		if err := v.Sync(); err != api.ErrNil {
			t.Error(i, err)
		}
		if err := v.Checkpoint(); err != api.ErrNil {
			t.Error(i, err)
		}
		if v.Layout() != (api.Layout{}) || v.Next() != 0 || v.Synced() != 0 || v.Broken() {
			t.Error(i, v.Layout(), v.Next(), v.Synced(), v.Broken())
		}
	}
}

// R5: a volume whose disk is none any more answers errors, and does not panic.
func TestVolumeOfALostDisk(t *testing.T) {
	for _, ask := range []func(v *volume.Volume) api.Errno{
		func(v *volume.Volume) api.Errno { _, err := v.Read(30); return err },
		func(v *volume.Volume) api.Errno { _, err := v.Commit(some(1, 30, 1)); return err },
		(*volume.Volume).Sync,
		(*volume.Volume).Checkpoint,
	} {
		d := formatted(t, 64)
		v := mount(t, d)
		*d = disk.Disk{}
		if err := ask(v); err != api.ErrNil {
			t.Error(err)
		}
	}
}

// P11.2, R4: two volumes of two disks are apart.
func TestVolumesAreApart(t *testing.T) {
	d := formatted(t, 64)
	a, b := mount(t, d.Copy()), mount(t, d.Copy())
	was, _ := b.Read(30)
	commits(t, a, some(1, 30, 3), 1, api.OK)
	a.Checkpoint()
	reads(t, b, 30, was)
	numbers(t, b, 1, 0)
	commits(t, b, some(2, 30, 3), 1, api.OK)
	reads(t, a, 30, some(1, 30, 3)[0].Data)
}
