package replay_test

import (
	"bytes"
	"math/rand"
	"testing"

	"ledgerstone/api"
	"ledgerstone/disk"
	"ledgerstone/journal"
	"ledgerstone/replay"
	"ledgerstone/scan"
)

// sectorSets are sets of sectors that a torn write may leave: none, all, each one alone, all but each one, some.
func sectorSets() []uint8 {
	sets := []uint8{0, 0xff, 0x0f, 0xf0, 0x55, 0xaa}
	for s := range 8 {
		sets = append(sets, 1<<s, ^uint8(1<<s))
	}
	return sets
}

// crashes hands on a copy of d behind each crash: any of the unflushed writes kept, none torn or each of them by each of sets.
func crashes(d *disk.Disk, sets []uint8, then func(c *disk.Disk)) {
	writes := len(d.Pending())
	for mix := range 1 << writes {
		keep := make([]bool, writes)
		for i := range keep {
			keep[i] = mix>>i&1 == 1
		}
		behind := func(torn int, sectors uint8) {
			c := d.Copy()
			c.Crash(keep, torn, sectors)
			then(c)
		}
		behind(-1, 0)
		for torn := range writes {
			for _, sectors := range sets {
				if keep[torn] { // what keep says of the torn one does not count
					behind(torn, sectors)
				}
			}
		}
	}
}

// work is a Do that is begun on a disk of these bytes, one of whose superblocks counts.
type work struct {
	start  []byte
	images []api.Image
	old    api.Super
	now    api.Super
	slot   int // where now goes; old is in the other one
}

// newWork is a disk of that many blocks, with old in the slot that counts and those bytes in the other one.
func newWork(blocks, slot int, other []byte, images []api.Image) work {
	w := work{start: mixed(blocks, blocks), images: images, old: S(3, 8), now: S(4, 9), slot: slot}
	copy(w.start[(1-slot)*4096:], superBytes(w.old))
	copy(w.start[slot*4096:], other)
	return w
}

// whole is the blocks that a Do leaves.
func (w work) whole() []byte {
	return done(w.start, operations(w.images, w.now, w.slot)).durable
}

// others are bytes that may stand in the slot that does not count.
func others() [][]byte {
	return [][]byte{make([]byte, 4096), superBytes(S(2, 5)), superBytes(S(3, 7)), mixed(77, 1)}
}

// begun is d with the power gone behind so many operations of the Do.
func (w work) begun(t *testing.T, d *disk.Disk, ops int) {
	t.Helper()
	d.Arm(ops)
	want := api.ErrDown
	if ops >= len(w.images)+3 {
		want = api.OK
	}
	if err := replay.Do(d, w.images, w.now, w.slot); err != want {
		t.Fatal(ops, err)
	}
}

// counts is which superblock counts on d: it must be the old one or the new one, and the new one, if it is there.
func (w work) counts(t *testing.T, d *disk.Disk, what ...any) bool {
	t.Helper()
	there := bytes.Equal(read(t, d, w.slot), superBytes(w.now))
	want, wantSlot := w.old, 1-w.slot
	if there {
		want, wantSlot = w.now, w.slot
	}
	if got, slot, ok := replay.Choose(read(t, d, 0), read(t, d, 1)); got != want || slot != wantSlot || !ok {
		t.Fatal("counts", got, slot, ok, "wanted", want, wantSlot, what)
	}
	return there
}

// finishes is that Do, with the power there, leaves the same blocks as without a crash.
func (w work) finishes(t *testing.T, d *disk.Disk, whole []byte, what ...any) {
	t.Helper()
	if err := replay.Do(d, w.images, w.now, w.slot); err != api.OK {
		t.Fatal(err, what)
	}
	if !bytes.Equal(lasts(d), whole) {
		t.Fatal("other blocks than without a crash", what)
	}
	if !w.counts(t, d, what...) {
		t.Fatal("done, and the old one counts", what)
	}
}

// P10.4: a crash at each operation, that keeps any of the unflushed writes, one of them torn: the old superblock counts or the new one, the new one not ahead of the images; and done again, all is as without a crash.
func TestCrashAtEachOperation(t *testing.T) {
	images := []api.Image{image(18, filled(1)), image(30, mixed(2, 1)), image(63, mixed(3, 1))}
	for slot := range 2 {
		for n, other := range others() {
			w := newWork(64, slot, other, images)
			whole := w.whole()
			both := [2]int{}
			for ops := range len(images) + 4 {
				d := load(t, w.start)
				w.begun(t, d, ops)
				crashes(d, sectorSets(), func(c *disk.Disk) {
					is := w.counts(t, c, slot, n, ops)
					switch {
					case is && ops < len(images)+2:
						t.Fatal("the new one counts ahead of its being written", ops)
					case !is && ops == len(images)+3:
						t.Fatal("the new one was flushed, and the old one counts")
					case is:
						both[1]++
						if !bytes.Equal(c.Image(), whole) {
							t.Fatal("the new one counts, and the images are not there", ops)
						}
					default:
						both[0]++
					}
					w.finishes(t, c, whole, slot, n, ops)
				})
			}
			if both[0] == 0 || both[1] == 0 {
				t.Fatal("never the old one, or never the new one", both)
			}
		}
	}
}

// P10.4: a superblock that is torn in any set of sectors, over noughts, another superblock, or other bytes.
func TestCrashTearsTheSuperblock(t *testing.T) {
	for slot := range 2 {
		for n, other := range others() {
			w := newWork(64, slot, other, []api.Image{image(40, filled(1))})
			whole := w.whole()
			d := load(t, w.start)
			w.begun(t, d, 3)
			for sectors := range 256 {
				c := d.Copy()
				c.Crash(nil, 0, uint8(sectors))
				w.counts(t, c, slot, n, sectors)
				w.finishes(t, c, whole, slot, n, sectors)
			}
		}
	}
}

// P10.4: a superblock that takes the place of the one that counts: over a superblock it is the old one or the new one, however it is torn.
func TestCrashOverTheOneThatCounts(t *testing.T) {
	for slot := range 2 {
		start := mixed(9, 64)
		copy(start[slot*4096:], superBytes(S(3, 8)))
		copy(start[(1-slot)*4096:], make([]byte, 4096))
		d := load(t, start)
		d.Arm(2)
		if err := replay.Do(d, nil, S(4, 9), slot); err != api.ErrDown {
			t.Fatal(err)
		}
		for sectors := range 256 {
			c := d.Copy()
			c.Crash(nil, 0, uint8(sectors))
			want := S(3, 8)
			if sectors&1 == 1 { // all that a superblock says lies in its first sector
				want = S(4, 9)
			}
			if got, at, ok := replay.Choose(read(t, c, 0), read(t, c, 1)); got != want || at != slot || !ok {
				t.Fatal(slot, sectors, got, at, ok)
			}
		}
	}
}

// P10.4: crashes in the Do that follows a crash, once more and once more again, each at each operation; images of the same block twice are among them.
func TestCrashAgainAndAgain(t *testing.T) {
	rows := [][]api.Image{{image(2, mixed(1, 1)), image(4, mixed(2, 1))}, {image(3, mixed(1, 1)), image(3, mixed(2, 1))}}
	for _, images := range rows {
		w := newWork(5, 1, superBytes(S(2, 5)), images)
		whole := w.whole()
		var again func(d *disk.Disk, left int)
		again = func(d *disk.Disk, left int) {
			for ops := range len(images) + 4 {
				begun := d.Copy()
				w.begun(t, begun, ops)
				crashes(begun, []uint8{0x2a}, func(c *disk.Disk) {
					w.counts(t, c, left, ops)
					if left > 0 {
						again(c, left-1)
					}
					w.finishes(t, c, whole, left, ops)
				})
			}
		}
		again(load(t, w.start), 2)
	}
}

// chanceCrash is a crash of d that keeps and tears by chance.
func chanceCrash(d *disk.Disk, chance *rand.Rand) {
	keep := make([]bool, len(d.Pending()))
	for i := range keep {
		keep[i] = chance.Intn(2) == 0
	}
	d.Crash(keep, chance.Intn(len(keep)+2)-1, uint8(chance.Intn(256)))
}

// P10.4: many crashes in a row, by chance, on disks of all sizes, with images of any blocks.
func TestCrashByChance(t *testing.T) {
	chance := rand.New(rand.NewSource(3))
	for round := range 400 {
		blocks := 3 + chance.Intn(510)
		var images []api.Image
		for range chance.Intn(40) {
			images = append(images, image(2+chance.Intn(blocks-2), mixed(chance.Int(), 1)))
		}
		w := newWork(blocks, chance.Intn(2), others()[chance.Intn(4)], images)
		whole := w.whole()
		d := load(t, w.start)
		for range chance.Intn(8) {
			w.begun(t, d, chance.Intn(len(images)+3))
			chanceCrash(d, chance)
			w.counts(t, d, round)
		}
		w.finishes(t, d, whole, round)
		w.finishes(t, d, whole, round)
	}
}

// P10.4: done twice without a crash, or thrice, the blocks are the same; so are they if the groups are put home again in between.
func TestDoTwice(t *testing.T) {
	l := layoutOf(t, 64)
	groups := []api.Group{group(image(40, mixed(1, 1)), image(30, mixed(2, 1))), group(image(40, mixed(3, 1)), image(18, mixed(4, 1)))}
	d := load(t, mixed(8, 64))
	var first []byte
	for i := range 3 {
		images, err := replay.Home(l, groups)
		if err != api.OK {
			t.Fatal(err)
		}
		if err := replay.Do(d, images, S(2, 3), 1); err != api.OK {
			t.Fatal(err)
		}
		if i == 0 {
			first = lasts(d)
		}
		if !bytes.Equal(lasts(d), first) {
			t.Fatal("other blocks", i)
		}
	}
	want := mixed(8, 64)
	for _, i := range append(lastOnes(l, groups), image(1, superBytes(S(2, 3)))) {
		copy(want[i.Block*4096:], i.Data)
	}
	if !bytes.Equal(first, want) {
		t.Fatal("other blocks than the groups have")
	}
}

// recoverDisk is a recovery up to its end, or till the power goes: what counts is chosen, its groups are told and put home.
func recoverDisk(t *testing.T, d *disk.Disk, l api.Layout) api.Errno {
	t.Helper()
	s, slot, ok := replay.Choose(read(t, d, 0), read(t, d, 1))
	if !ok {
		t.Fatal("neither counts")
	}
	groups, place, err := scan.Groups(d, l, s)
	if err != api.OK {
		t.Fatal(err)
	}
	images, err := replay.Home(l, groups)
	if err != api.OK {
		t.Fatal(err)
	}
	next := api.Super{Blocks: s.Blocks, Epoch: s.Epoch + 1, Seq: s.Seq + len(groups), Tail: place}
	return replay.Do(d, images, next, 1-slot)
}

// P10.4: recoveries of groups that a journal has appended, cut by crashes at any operation, as often as may be: all but the superblocks is as of one that was not cut.
func TestCrashInRecoveries(t *testing.T) {
	chance := rand.New(rand.NewSource(4))
	for round := range 150 {
		blocks := sizes[chance.Intn(len(sizes))]
		l := layoutOf(t, blocks)
		start := mixed(round, blocks)
		slot := chance.Intn(2)
		s := api.Super{Blocks: blocks, Epoch: 1 + chance.Intn(3), Seq: 1 + chance.Intn(9), Tail: chance.Intn(l.LogBlocks)}
		copy(start[slot*4096:], superBytes(s))
		copy(start[(1-slot)*4096:], others()[chance.Intn(2)*3])
		d := load(t, start)
		j, err := journal.Open(d, l, s.Epoch, s.Seq, s.Tail)
		if err != api.OK {
			t.Fatal(err)
		}
		for range chance.Intn(4) {
			var images []api.Image
			n := l.Bits + chance.Intn(4)
			for range 1 + chance.Intn(4) {
				images = append(images, image(n, mixed(chance.Int(), 1)))
				n += 1 + chance.Intn(8)
			}
			if _, err := j.Append(images, false); err != api.OK && err != api.ErrFull {
				t.Fatal(err)
			}
		}
		d.Flush()
		uncut := d.Copy()
		if err := recoverDisk(t, uncut, l); err != api.OK {
			t.Fatal(err)
		}
		want := uncut.Image()[2*4096:]
		for range chance.Intn(6) {
			d.Arm(chance.Intn(16))
			recoverDisk(t, d, l)
			chanceCrash(d, chance)
		}
		for range 2 {
			if err := recoverDisk(t, d, l); err != api.OK {
				t.Fatal(err)
			}
			if !bytes.Equal(lasts(d)[2*4096:], want) {
				t.Fatal("other blocks than of a recovery that was not cut", round)
			}
		}
	}
}
