package volume_test

import (
	"bytes"
	"slices"
	"testing"

	"ledgerstone/api"
)

// spoil turns each byte of b, its spare room too.
func spoil(b []byte) {
	b = b[:cap(b)]
	for i := range b {
		b[i] ^= 0xff
	}
}

// roomy is images whose list, and whose Data, have spare room, which has other bytes.
func roomy(tag, first, count int) []api.Image {
	l := make([]api.Image, 0, 2*count+1)
	for i := range count {
		data := mixed(1000*tag+i, 2)
		l = append(l, image(first+i, data[:4096]))
	}
	spare := l[:cap(l)]
	for i := count; i < len(spare); i++ {
		spare[i] = image(-i, filled(byte(i)))
	}
	return l
}

// copyAll is all images of l, its spare room too, in memory of their own, with the spare room of each Data.
func copyAll(l []api.Image) []api.Image {
	out := slices.Clone(l[:cap(l)])
	for i := range out {
		out[i].Data = bytes.Clone(out[i].Data[:cap(out[i].Data)])
	}
	return out
}

// stays is that all of l, its spare room too, is as it was.
func stays(t *testing.T, l, was []api.Image, what ...any) {
	t.Helper()
	same := slices.EqualFunc(copyAll(l), was, func(a, b api.Image) bool {
		return a.Block == b.Block && bytes.Equal(a.Data, b.Data)
	})
	if !same {
		t.Fatal("handed in, and changed", what)
	}
}

// R3: what Commit was handed stays as it is, through all that is done behind it.
func TestCommitLeavesItsArguments(t *testing.T) {
	for _, count := range []int{1, 3, 15, 16, 33} {
		v := mount(t, formatted(t, 64))
		l := roomy(1, 18, count)
		was := copyAll(l)
		for range 3 {
			v.Commit(l)
			stays(t, l, was, "Commit", count)
		}
		v.Sync()
		for n := 18; n < 64; n++ {
			b, _ := v.Read(n)
			spoil(b)
		}
		stays(t, l, was, "Read", count)
		v.Checkpoint()
		stays(t, l, was, "Checkpoint", count)
	}
}

// R3: what Commit was handed may be changed by who has it: the volume, the disk and what comes behind a crash stay.
func TestCommitKeepsNothingOfItsArguments(t *testing.T) {
	for _, synced := range []bool{false, true} {
		d := formatted(t, 64)
		v := mount(t, d)
		want := roomy(1, 30, 4)
		check := func() {
			t.Helper()
			for _, i := range want {
				reads(t, v, i.Block, i.Data)
			}
		}
		l := roomy(1, 30, 4)
		commits(t, v, l, 1, api.OK)
		for i := range l {
			spoil(l[i].Data)
			l[i].Block = 50 + i
			l[i].Data = filled(9)
		}
		check()
		if synced {
			if err := v.Sync(); err != api.OK {
				t.Fatal(err)
			}
			d.Crash(nil, -1, 0)
			v = mount(t, d)
			check()
			continue
		}
		if err := v.Checkpoint(); err != api.OK {
			t.Fatal(err)
		}
		check()
		for _, i := range want {
			if !bytes.Equal(block(lasts(d), i.Block), i.Data) {
				t.Fatal("other bytes at their place", i.Block)
			}
		}
	}
}

// R3: images that share their Data are apart in the volume.
func TestCommitOfSharedData(t *testing.T) {
	v := mount(t, formatted(t, 64))
	data := mixed(1, 1)
	commits(t, v, []api.Image{image(30, data), image(31, data)}, 1, api.OK)
	b, _ := v.Read(30)
	spoil(b)
	reads(t, v, 30, mixed(1, 1))
	reads(t, v, 31, mixed(1, 1))
	spoil(data)
	reads(t, v, 30, mixed(1, 1))
	reads(t, v, 31, mixed(1, 1))
}

// R3: what Read told may be changed by who has it, and is new each time: of blocks that were committed, and of those that stand on the disk.
func TestReadsAreNew(t *testing.T) {
	d := formatted(t, 64)
	v := mount(t, d)
	commits(t, v, some(1, 30, 3), 1, api.OK)
	for round := range 3 {
		stood := d.Image()
		for n := range 64 {
			first, _ := v.Read(n)
			second, _ := v.Read(n)
			want := bytes.Clone(first)
			spoil(first)
			if !bytes.Equal(second, want) {
				t.Fatal(round, n, "two answers share memory")
			}
			reads(t, v, n, want, round)
		}
		if !bytes.Equal(d.Image(), stood) {
			t.Fatal(round, "the disk was changed")
		}
		for i, image := range some(1, 30, 3) {
			reads(t, v, image.Block, image.Data, round, i)
		}
		if round == 1 {
			v.Checkpoint()
		} else {
			v.Sync()
		}
	}
}

// R3: an answer of Read stays as it is, whatever is done behind it.
func TestReadsStay(t *testing.T) {
	d := formatted(t, 64)
	v := mount(t, d)
	on, _ := v.Read(40)
	wasOn := bytes.Clone(on)
	commits(t, v, some(1, 30, 3), 1, api.OK)
	b, _ := v.Read(30)
	commits(t, v, some(2, 30, 11), 2, api.OK)
	v.Checkpoint()
	commits(t, v, some(3, 30, 11), 3, api.OK)
	v.Sync()
	mount(t, d)
	if !bytes.Equal(b, some(1, 30, 3)[0].Data) || !bytes.Equal(on, wasOn) {
		t.Fatal("an answer was changed")
	}
}
