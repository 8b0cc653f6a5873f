package volume_test

import (
	"bytes"
	"slices"
	"testing"

	"ledgerstone/api"
	"ledgerstone/disk"
	"ledgerstone/volume"
)

// notDisks are disks that no call of their package made, and none.
func notDisks(t *testing.T) []*disk.Disk {
	t.Helper()
	copied := *formatted(t, 64)
	return []*disk.Disk{nil, {}, new(disk.Disk), &copied}
}

// stops are the two ways in which a disk stops an operation.
func stops() []struct {
	name string
	set  func(d *disk.Disk, ops int) api.Errno
	want api.Errno
} {
	return []struct {
		name string
		set  func(d *disk.Disk, ops int) api.Errno
		want api.Errno
	}{{"power", (*disk.Disk).Arm, api.ErrDown}, {"one", (*disk.Disk).Fail, api.ErrIO}}
}

// P11.1, R5: no disk, and disks that no call made.
func TestFormatOfNoDisk(t *testing.T) {
	for i, d := range notDisks(t) {
		if err := volume.Format(d); err != api.ErrNil {
			t.Error(i, err)
		}
	}
	// 513 blocks are no disk: what New answers beside its error is nil.
	d, err := disk.New(513)
	if err != api.ErrArg {
		t.Error(err)
	}
	if err := volume.Format(d); err != api.ErrNil {
		t.Error(err)
	}
}

// P11.1: disks that are too small are refused, and nothing is done to them; the power is not asked.
func TestFormatOfSmallDisks(t *testing.T) {
	for _, blocks := range []int{1, 2, 16, 32, 62, 63} {
		d := load(t, mixed(blocks, blocks))
		d.Write(0, filled(9))
		stood, kept := d.Image(), lasts(d)
		refused := func() {
			t.Helper()
			if err := volume.Format(d); err != api.ErrArg || d.Writes() != 1 || !slices.Equal(d.Pending(), []int{0}) || !bytes.Equal(d.Image(), stood) || !bytes.Equal(lasts(d), kept) {
				t.Fatal(blocks, err, d.Writes(), d.Pending())
			}
		}
		refused()
		d.Arm(0)
		refused()
		d.Flush()
		refused()
	}
}

// P11.1: what each block is behind it: a superblock, noughts up to data, and data as it was; all of it lasts.
func TestFormat(t *testing.T) {
	for blocks := 64; blocks <= 512; blocks++ {
		if blocks > 80 && blocks < 500 && blocks%16 > 1 && blocks%16 < 15 {
			continue
		}
		was := mixed(blocks, blocks)
		d := load(t, was)
		if err := volume.Format(d); err != api.OK {
			t.Fatal(blocks, err)
		}
		want := bytes.Clone(was)
		clear(want[:4096*layoutOf(blocks).Data])
		copy(want, superBytes(api.Super{Blocks: blocks, Epoch: 1, Seq: 1, Tail: 0}))
		if !bytes.Equal(d.Image(), want) || !bytes.Equal(lasts(d), want) || len(d.Pending()) != 0 {
			t.Fatal(blocks, "other blocks")
		}
		if d.Writes() != layoutOf(blocks).Data {
			t.Fatal(blocks, d.Writes())
		}
	}
}

// formatOps is how many operations Format does: each block ahead of data is written once, and there are two flushes.
func formatOps(blocks int) int {
	return layoutOf(blocks).Data + 2
}

// formattedSoFar is a disk behind so many operations of Format, by P11.1's words.
func formattedSoFar(t *testing.T, was *disk.Disk, ops int) *disk.Disk {
	t.Helper()
	d := was.Copy()
	l := layoutOf(d.Size())
	for i := range ops {
		switch {
		case i < l.Data-1:
			d.Write(i+1, make([]byte, 4096))
		case i == l.Data:
			d.Write(0, superBytes(api.Super{Blocks: l.Blocks, Epoch: 1, Seq: 1}))
		default:
			d.Flush()
		}
	}
	return d
}

// P11.1: the power fails, or one operation does, at each operation: that is the error, and all ahead of it was done, in its order.
func TestFormatStopsAtEachOperation(t *testing.T) {
	for _, blocks := range []int{64, 136, 512} {
		start := load(t, mixed(3, blocks))
		for _, stop := range stops() {
			for k := range formatOps(blocks) + 2 {
				if blocks == 512 && k > 5 && k < formatOps(blocks)-5 {
					continue
				}
				d := start.Copy()
				stop.set(d, k)
				want := api.OK
				if k < formatOps(blocks) {
					want = stop.want
				}
				if err := volume.Format(d); err != want {
					t.Fatal(blocks, stop.name, k, err)
				}
				sameDisks(t, d, formattedSoFar(t, start, min(k, formatOps(blocks))), blocks, stop.name, k)
			}
		}
	}
}

// P11.1: the power is gone ahead of it.
func TestFormatWithoutPower(t *testing.T) {
	d := load(t, mixed(4, 64))
	d.Arm(0)
	d.Flush()
	if err := volume.Format(d); err != api.ErrDown || d.Writes() != 0 || !bytes.Equal(d.Image(), mixed(4, 64)) {
		t.Fatal(err, d.Writes())
	}
}

// P11.1: a disk that was used is as one that was not, but for its data; what was unflushed there lasts then.
func TestFormatAgain(t *testing.T) {
	d := formatted(t, 64)
	v := mount(t, d)
	for i := range 9 {
		if _, err := v.Commit(some(i, 30, 5)); err != api.OK {
			t.Fatal(err)
		}
	}
	v.Checkpoint()
	v.Commit(some(20, 18, 3))
	d.Write(40, filled(1))
	if err := volume.Format(d); err != api.OK {
		t.Fatal(err)
	}
	if !bytes.Equal(block(lasts(d), 40), filled(1)) || !bytes.Equal(block(d.Image(), 34), some(8, 30, 5)[4].Data) {
		t.Fatal("data did not stay")
	}
	v = mount(t, d)
	if v.Next() != 1 || v.Synced() != 0 {
		t.Fatal(v.Next(), v.Synced())
	}
	for n := 18; n < 23; n++ {
		if b, err := v.Read(n); err != api.OK || !bytes.Equal(b, make([]byte, 4096)) {
			t.Fatal(n, err)
		}
	}
}

// P11.1, P11.6: a Format of noughts that was cut by a crash, whatever that kept, has left a disk that is refused, or one that is formatted.
func TestFormatIsCut(t *testing.T) {
	start := newDisk(t, 64)
	both := [2]int{}
	for k := range formatOps(64) + 1 {
		d := start.Copy()
		d.Arm(k)
		volume.Format(d)
		for _, c := range someCrashes(d, k) {
			p, err := mountPair(t, c, k)
			switch {
			case err == api.OK && p.volume.Next() == 1 && k > formatOps(64)-2:
				both[0]++
			case err == api.ErrImage && k < formatOps(64) && p.disk.Writes() == 0:
				both[1]++
			default:
				t.Fatal(k, err)
			}
		}
	}
	if both[0] == 0 || both[1] == 0 {
		t.Fatal("always or never formatted", both)
	}
}
