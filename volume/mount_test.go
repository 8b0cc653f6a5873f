package volume_test

import (
	"bytes"
	"math/rand"
	"slices"
	"testing"

	"ledgerstone/api"
	"ledgerstone/disk"
	"ledgerstone/record"
	"ledgerstone/volume"
)

// crafted is the bytes of a disk: other bytes, with those supers in blocks 0 and 1 (none of one that is all noughts), and the groups from the place at on in its ring.
func crafted(t *testing.T, blocks int, first, second api.Super, at int, groups ...api.Group) []byte {
	t.Helper()
	image := mixed(blocks+7, blocks)
	for slot, s := range []api.Super{first, second} {
		if s != (api.Super{}) {
			copy(block(image, slot), superBytes(s))
		}
	}
	l := layoutOf(blocks)
	for _, g := range groups {
		parts, err := record.Put(g)
		if err != api.OK {
			t.Fatal(err)
		}
		for _, b := range parts {
			copy(block(image, l.Log+at%l.LogBlocks), b)
			at++
		}
	}
	return image
}

// group is a group of one image.
func group(epoch, seq, block int) api.Group {
	return api.Group{Epoch: epoch, Seq: seq, Images: []api.Image{image(block, mixed(seq+100*epoch, 1))}}
}

// refused is that Mount of d answers want, and has done nothing to d, not even a flush.
func refused(t *testing.T, d *disk.Disk, want api.Errno, what ...any) {
	t.Helper()
	stood, kept, pending, writes := d.Image(), lasts(d), d.Pending(), d.Writes()
	v, err := volume.Mount(d)
	if v != nil || err != want {
		t.Fatal("Mount", int(err), "wanted", int(want), what)
	}
	if d.Writes() != writes || !slices.Equal(d.Pending(), pending) || !bytes.Equal(d.Image(), stood) || !bytes.Equal(lasts(d), kept) {
		t.Fatal("refused, and changed", what)
	}
}

// refusedImage is that a disk of these bytes is none of ours, also while a write of it is unflushed.
func refusedImage(t *testing.T, image []byte, what ...any) {
	t.Helper()
	d := load(t, image)
	refused(t, d, api.ErrImage, what...)
	if d.Writes() != 0 {
		t.Fatal(d.Writes(), what)
	}
	d.Write(d.Size()-1, filled(3))
	refused(t, d, api.ErrImage, what...)
	mountPair(t, load(t, image), what...)
}

// P11.2, R5: no disk, and disks that no call made.
func TestMountOfNoDisk(t *testing.T) {
	for i, d := range notDisks(t) {
		if v, err := volume.Mount(d); v != nil || err != api.ErrNil {
			t.Error(i, err)
		}
	}
	d, _ := disk.New(513)
	if v, err := volume.Mount(d); v != nil || err != api.ErrNil {
		t.Error(err)
	}
}

// P11.2: disks that are too small, even with a superblock that says so many blocks, or more.
func TestMountOfSmallDisks(t *testing.T) {
	for _, blocks := range []int{1, 2, 3, 16, 62, 63} {
		refusedImage(t, make([]byte, 4096*blocks), blocks)
		for _, says := range []int{blocks, 64, 512} {
			image := mixed(1, blocks)
			copy(image, superBytes(api.Super{Blocks: says, Epoch: 1, Seq: 1}))
			refusedImage(t, image, blocks, says)
		}
		d := newDisk(t, blocks)
		d.Arm(0)
		d.Flush()
		refused(t, d, api.ErrImage, "its size comes ahead of its power")
	}
}

// P11.2: disks of each size that were formatted; the first Mount writes block 1.
func TestMountOfFormattedDisks(t *testing.T) {
	for _, blocks := range sizes {
		d := formatted(t, blocks)
		was := d.Image()
		v := mount(t, d)
		copy(block(was, 1), superBytes(api.Super{Blocks: blocks, Epoch: 2, Seq: 1, Tail: 0}))
		if !bytes.Equal(d.Image(), was) || !bytes.Equal(lasts(d), was) || d.Writes() != 1 {
			t.Fatal(blocks, d.Writes())
		}
		if v.Next() != 1 || v.Synced() != 0 || v.Broken() || v.Layout() != layoutOf(blocks) {
			t.Fatal(blocks, v.Next(), v.Synced(), v.Broken(), v.Layout())
		}
	}
}

// P11.2: no superblock in either slot: noughts, other bytes, a superblock with one byte turned, one elsewhere.
func TestMountWithoutSuperblocks(t *testing.T) {
	for _, blocks := range []int{64, 512} {
		refusedImage(t, make([]byte, 4096*blocks), blocks)
		refusedImage(t, mixed(1, blocks), blocks)
		image := mixed(1, blocks)
		copy(block(image, 2), superBytes(api.Super{Blocks: blocks, Epoch: 1, Seq: 1}))
		copy(block(image, blocks-1), superBytes(api.Super{Blocks: blocks, Epoch: 1, Seq: 1}))
		refusedImage(t, image, blocks)
	}
	right := crafted(t, 64, api.Super{Blocks: 64, Epoch: 1, Seq: 1}, api.Super{}, 0)
	for _, at := range []int{0, 7, 14, 15, 23, 31, 39, 40, 43, 44, 511, 512, 4095} {
		image := bytes.Clone(right)
		image[at] ^= 1
		refusedImage(t, image, at)
	}
}

// mounts is that a disk of these bytes is mounted as the model does it: the volume.
func mounts(t *testing.T, image []byte, what ...any) pair {
	t.Helper()
	p, err := mountPair(t, load(t, image), what...)
	if err != api.OK {
		t.Fatal(err, what)
	}
	return p
}

// wrote is that of the two superblocks just that of slot was written, as s.
func wrote(t *testing.T, p pair, was []byte, slot int, s api.Super, what ...any) {
	t.Helper()
	now := lasts(p.disk)
	if !bytes.Equal(block(now, slot), superBytes(s)) || !bytes.Equal(block(now, 1-slot), block(was, 1-slot)) {
		t.Fatal("other superblocks", what)
	}
}

// P11.2: one superblock, or both: which slot is written, and what.
func TestMountWritesTheOtherSlot(t *testing.T) {
	S := func(epoch, seq, tail int) api.Super {
		return api.Super{Blocks: 64, Epoch: epoch, Seq: seq, Tail: tail}
	}
	for i, row := range []struct {
		first, second api.Super
		slot          int
		want          api.Super
	}{
		{S(1, 1, 0), api.Super{}, 1, S(2, 1, 0)},
		{api.Super{}, S(1, 1, 0), 0, S(2, 1, 0)},
		{S(1, 5, 3), S(2, 1, 4), 0, S(3, 1, 4)},
		{S(2, 1, 3), S(1, 5, 4), 1, S(3, 1, 3)},
		{S(1, 5, 3), S(1, 6, 4), 0, S(2, 6, 4)},
		{S(1, 6, 3), S(1, 5, 4), 1, S(2, 6, 3)},
		{S(1, 5, 3), S(1, 5, 3), 1, S(2, 5, 3)},
		{S(1, 5, 3), S(1, 5, 4), 1, S(2, 5, 3)},
		{S(1<<23-1, 1<<39, 15), S(1, 5, 4), 1, S(1<<23, 1<<39, 15)},
	} {
		was := crafted(t, 64, row.first, row.second, 0)
		p := mounts(t, was, i)
		wrote(t, p, was, row.slot, row.want, i)
		if p.disk.Writes() != 1 || p.volume.Next() != row.want.Seq || p.volume.Synced() != row.want.Seq-1 {
			t.Fatal(i, p.disk.Writes(), p.volume.Next(), p.volume.Synced())
		}
	}
}

// P11.2: the super that counts has other Blocks; that the one that does not count is right helps nothing, nor harms that it is wrong.
func TestMountOfOtherBlocks(t *testing.T) {
	right := api.Super{Blocks: 128, Epoch: 3, Seq: 1}
	for _, blocks := range []int{64, 127, 129, 512} {
		other := api.Super{Blocks: blocks, Epoch: 4, Seq: 1}
		refusedImage(t, crafted(t, 128, other, api.Super{}, 0), blocks)
		refusedImage(t, crafted(t, 128, api.Super{}, other, 0), blocks)
		refusedImage(t, crafted(t, 128, right, other, 0), blocks)
		refusedImage(t, crafted(t, 128, other, right, 0), blocks)
		other.Epoch = 2
		mounts(t, crafted(t, 128, right, other, 0), blocks)
		mounts(t, crafted(t, 128, other, right, 0), blocks)
	}
}

// P11.2: tails up to the ring's end, and from there on.
func TestMountOfTails(t *testing.T) {
	for _, blocks := range []int{64, 136, 512} {
		places := layoutOf(blocks).LogBlocks
		for _, tail := range []int{0, 1, places - 1, places, places + 1, 511} {
			s := api.Super{Blocks: blocks, Epoch: 1, Seq: 1, Tail: tail}
			if tail >= places {
				refusedImage(t, crafted(t, blocks, s, api.Super{}, 0), blocks, tail)
				refusedImage(t, crafted(t, blocks, s, api.Super{}, tail, group(1, 1, blocks-1)), blocks, tail)
				continue
			}
			was := crafted(t, blocks, s, api.Super{}, tail, group(1, 1, blocks-1))
			p := mounts(t, was, blocks, tail)
			wrote(t, p, was, 1, api.Super{Blocks: blocks, Epoch: 2, Seq: 2, Tail: (tail + 2) % places})
			if b, _ := p.volume.Read(blocks - 1); !bytes.Equal(b, group(1, 1, 0).Images[0].Data) {
				t.Fatal(blocks, tail)
			}
		}
	}
}

// P11.2: the last epoch is never mounted again; the one ahead of it is.
func TestMountOfTheLastEpochs(t *testing.T) {
	for slot := range 2 {
		both := [2]api.Super{}
		both[slot] = api.Super{Blocks: 64, Epoch: 1 << 23, Seq: 1}
		refusedImage(t, crafted(t, 64, both[0], both[1], 0), slot)
		refusedImage(t, crafted(t, 64, both[0], both[1], 0, group(1<<23, 1, 40)), slot)
		both[1-slot] = api.Super{Blocks: 64, Epoch: 1, Seq: 1}
		refusedImage(t, crafted(t, 64, both[0], both[1], 0), slot)
	}
	p := mounts(t, crafted(t, 64, api.Super{Blocks: 64, Epoch: 1<<23 - 1, Seq: 1}, api.Super{}, 0))
	p.askAll(t, commit(some(1, 30, 3)), sync(), checkpoint(), commit(some(2, 30, 3)))
	refused(t, crashed(p.disk, nil, -1, 0), api.ErrImage)
}

// P11.2: the numbers come to their end: a Seq of MaxSeq is mounted without groups, and not with one; so with groups up to it.
func TestMountOfTheLastNumbers(t *testing.T) {
	for ahead := range 5 {
		seq := 1<<39 - ahead
		var groups []api.Group
		for n := range ahead + 1 {
			s := api.Super{Blocks: 64, Epoch: 1, Seq: seq, Tail: 13}
			was := crafted(t, 64, s, api.Super{}, 13, groups...)
			p := mounts(t, was, ahead, n)
			wrote(t, p, was, 1, api.Super{Blocks: 64, Epoch: 2, Seq: seq + n, Tail: (13 + 2*n) % 16})
			groups = append(groups, group(1, seq+n, 30+n))
		}
		s := api.Super{Blocks: 64, Epoch: 1, Seq: seq, Tail: 13}
		refusedImage(t, crafted(t, 64, s, api.Super{}, 13, groups...), ahead)
	}
}

// P11.2: groups with an image ahead of Bits, or past the disk's end, wherever it stands: the disk is refused, the groups ahead of it too.
func TestMountOfOtherBlocksImages(t *testing.T) {
	for _, blocks := range []int{64, 136} {
		l := layoutOf(blocks)
		s := api.Super{Blocks: blocks, Epoch: 1, Seq: 1, Tail: 9}
		for _, n := range []int{0, 1, 2, l.Bits - 1, blocks, blocks + 1, 511} {
			refusedImage(t, crafted(t, blocks, s, api.Super{}, 9, group(1, 1, n)), blocks, n)
			refusedImage(t, crafted(t, blocks, s, api.Super{}, 9, group(1, 1, 40), group(1, 2, n)), blocks, n)
			refusedImage(t, crafted(t, blocks, s, api.Super{}, 9, group(1, 1, n), group(1, 2, 40)), blocks, n)
			g := api.Group{Epoch: 1, Seq: 1, Images: append(some(1, l.Bits, 5), image(n, filled(1)))}
			refusedImage(t, crafted(t, blocks, s, api.Super{}, 9, g), blocks, n)
			// A group that does not follow is none.
			mounts(t, crafted(t, blocks, s, api.Super{}, 9, group(1, 2, n)), blocks, n)
			mounts(t, crafted(t, blocks, s, api.Super{}, 9, group(2, 1, n)), blocks, n)
		}
		for _, n := range []int{l.Bits, l.Data, blocks - 1} {
			p := mounts(t, crafted(t, blocks, s, api.Super{}, 9, group(1, 1, n)), blocks, n)
			if p.volume.Next() != 2 {
				t.Fatal(blocks, n)
			}
		}
	}
}

// P11.2: of several groups the last image of each block counts; they are written by rising blocks, once each, then the superblock.
func TestMountPutsGroupsHome(t *testing.T) {
	s := api.Super{Blocks: 64, Epoch: 5, Seq: 9, Tail: 12}
	groups := []api.Group{
		{Epoch: 5, Seq: 9, Images: []api.Image{image(50, filled(1)), image(30, filled(2)), image(18, filled(3))}},
		{Epoch: 5, Seq: 10, Images: []api.Image{image(30, filled(4)), image(63, filled(5))}},
		{Epoch: 5, Seq: 11, Images: []api.Image{image(30, filled(6)), image(40, filled(7))}},
	}
	was := crafted(t, 64, s, api.Super{}, 12, groups...)
	d := load(t, was)
	d.Arm(5)
	if _, err := volume.Mount(d); err != api.ErrDown || !slices.Equal(d.Pending(), []int{18, 30, 40, 50, 63}) {
		t.Fatal(err, d.Pending())
	}
	p := mounts(t, was)
	wrote(t, p, was, 1, api.Super{Blocks: 64, Epoch: 6, Seq: 12, Tail: (12 + 4 + 3 + 3) % 16})
	if p.disk.Writes() != 6 || p.volume.Next() != 12 || p.volume.Synced() != 11 {
		t.Fatal(p.disk.Writes(), p.volume.Next(), p.volume.Synced())
	}
	for n, want := range map[int]byte{18: 3, 30: 6, 40: 7, 50: 1, 63: 5} {
		if b, err := p.volume.Read(n); err != api.OK || !bytes.Equal(b, filled(want)) {
			t.Fatal(n, err)
		}
	}
}

// P11.2: the power fails, or one operation does, at each operation of it: that is the error, there is no volume, and all ahead of it was done.
func TestMountStopsAtEachOperation(t *testing.T) {
	s := api.Super{Blocks: 64, Epoch: 5, Seq: 9, Tail: 12}
	rows := [][]api.Group{nil, {group(5, 9, 30)}, {group(5, 9, 50), group(5, 10, 18), group(5, 11, 50), group(5, 12, 63)}}
	for i, groups := range rows {
		images := []int{0, 1, 3}[i]
		for _, stop := range stops() {
			for k := range images + 5 {
				d := load(t, crafted(t, 64, s, api.Super{}, 12, groups...))
				d.Write(60, filled(1))
				stop.set(d, k)
				want := api.OK
				if k < images+3 {
					want = stop.want
				}
				if _, err := mountPair(t, d, i, stop.name, k); err != want {
					t.Fatal(i, stop.name, k, err)
				}
			}
		}
	}
}

// P11.2: the power is gone ahead of it: whatever the disk has, that is the error.
func TestMountWithoutPower(t *testing.T) {
	for i, image := range [][]byte{make([]byte, 4096*64), mixed(1, 64), formatted(t, 64).Image()} {
		d := load(t, image)
		d.Arm(0)
		d.Write(63, filled(1))
		refused(t, d, api.ErrDown, i)
	}
}

// P11.2: an operation that fails leaves a disk that can be mounted, without a crash between.
func TestMountBehindAFailure(t *testing.T) {
	s := api.Super{Blocks: 64, Epoch: 5, Seq: 9, Tail: 12}
	was := crafted(t, 64, s, api.Super{}, 12, group(5, 9, 50), group(5, 10, 18))
	for k := range 5 {
		d := load(t, was)
		d.Fail(k)
		if v, err := volume.Mount(d); v != nil || err != api.ErrIO {
			t.Fatal(k, err)
		}
		p, err := mountPair(t, d, k)
		if err != api.OK || p.volume.Next() != 11 {
			t.Fatal(k, err)
		}
		for n, seq := range map[int]int{50: 9, 18: 10} {
			if b, _ := p.volume.Read(n); !bytes.Equal(b, group(5, seq, n).Images[0].Data) {
				t.Fatal(k, n)
			}
		}
	}
}

// chanceDisk is a disk that no Format wrote: superblocks, groups and other bytes by chance, near what is right.
func chanceDisk(t *testing.T, chance *rand.Rand) []byte {
	t.Helper()
	blocks := sizes[chance.Intn(6)]
	l := layoutOf(blocks)
	of := func(l ...int) int { return l[chance.Intn(len(l))] }
	one := func() api.Super {
		if chance.Intn(4) == 0 {
			return api.Super{}
		}
		return api.Super{
			Blocks: of(blocks, blocks, blocks, blocks, blocks, blocks+1),
			Epoch:  of(1, 2, 3, 3, 3, 1<<23-1, 1<<23),
			Seq:    of(1, 2, 5, 6, 7, 1<<39-2, 1<<39-1, 1<<39),
			Tail:   of(0, 1, l.LogBlocks-2, l.LogBlocks-1, of(0, 0, 0, l.LogBlocks)),
		}
	}
	first, second := one(), one()
	counts, _ := counting(crafted(t, blocks, first, second, 0))
	var groups []api.Group
	epoch, seq := max(counts.Epoch, 1), max(counts.Seq, 1)
	for n := range chance.Intn(5) {
		g := api.Group{Epoch: epoch + of(0, 0, 0, 0, 0, 0, -1, 1), Seq: seq + n + of(0, 0, 0, 0, 0, 0, 0, 1)}
		if g.Epoch < 1 || g.Epoch > 1<<23 || g.Seq > 1<<39 {
			continue
		}
		low := of(l.Bits, l.Bits, l.Data, 40, 40, 40, of(40, 40, 0))
		g.Images = some(chance.Intn(1000), low, 1+chance.Intn(4))
		groups = append(groups, g)
	}
	image := crafted(t, blocks, first, second, counts.Tail, groups...)
	for range chance.Intn(3) * chance.Intn(2) {
		at := chance.Intn(4096 * l.Bits)
		image[at] ^= byte(1 + chance.Intn(255))
	}
	return image
}

// P11.2, P11.6: any bytes on a disk are refused without a write, or told; then it goes on.
func TestMountOfAnyBytes(t *testing.T) {
	chance := rand.New(rand.NewSource(5))
	seen := map[bool]int{}
	for i := range 800 {
		image := chanceDisk(t, chance)
		d := load(t, image)
		p, err := mountPair(t, d, i)
		seen[err == api.OK]++
		if err != api.OK {
			if err != api.ErrImage || p.disk.Writes() != 0 || !bytes.Equal(p.disk.Image(), image) {
				t.Fatal(i, err)
			}
			continue
		}
		p.ask(t, commit(some(i, 30, 2)), i)
		p.ask(t, sync(), i)
	}
	if seen[true] < 150 || seen[false] < 150 {
		t.Fatal("the test itself", seen)
	}
}
