package replay_test

import (
	"bytes"
	"math/rand"
	"slices"
	"testing"

	"ledgerstone/api"
	"ledgerstone/replay"
	"ledgerstone/super"
)

// candidate is bytes that may be found in block 0 or 1, and what they say, if they are a superblock.
type candidate struct {
	bytes []byte
	super api.Super
	is    bool
}

func superblock(s api.Super) candidate {
	return candidate{superBytes(s), s, true}
}

// nones is bytes that are no superblock.
func nones() []candidate {
	whole := superBytes(S(9, 9))
	out := [][]byte{
		nil, {}, {0}, whole[:1], whole[:8], whole[:40], whole[:44], whole[:512], whole[:4095],
		append(bytes.Clone(whole), 0), append(bytes.Clone(whole), whole...), whole[1:],
		make([]byte, 4096), filled(0xff), mixed(1, 1),
	}
	for _, wrong := range []api.Super{
		{}, {Blocks: 63, Epoch: 9, Seq: 9}, {Blocks: 513, Epoch: 9, Seq: 9},
		{Blocks: 64, Seq: 9}, {Blocks: 64, Epoch: 1<<23 + 1, Seq: 9}, {Blocks: 64, Epoch: -1, Seq: 9},
		{Blocks: 64, Epoch: 9}, {Blocks: 64, Epoch: 9, Seq: 1<<39 + 1}, {Blocks: 64, Epoch: 9, Seq: -1},
		{Blocks: 64, Epoch: 9, Seq: 9, Tail: -1}, {Blocks: 64, Epoch: 9, Seq: 9, Tail: 512},
	} {
		out = append(out, superBytes(wrong))
	}
	var all []candidate
	for _, b := range out {
		all = append(all, candidate{bytes: b})
	}
	return all
}

// superblocks are such as are lower, the same and greater, by one of their numbers or by several; Blocks and Tail, which do not count, go the other way.
func superblocks() []candidate {
	var all []candidate
	for _, epoch := range []int{1, 2, 3, 255, 256, 1<<23 - 1, 1 << 23} {
		for _, seq := range []int{1, 2, 5, 6, 256, 1 << 32, 1 << 39} {
			all = append(all,
				superblock(api.Super{Blocks: 64, Epoch: epoch, Seq: seq, Tail: 511}),
				superblock(api.Super{Blocks: 512, Epoch: epoch, Seq: seq}))
		}
	}
	return all
}

// chosen is which one counts, by the chapter's words; -1: neither.
func chosen(a, b candidate) int {
	switch {
	case !a.is && !b.is:
		return -1
	case !a.is:
		return 1
	case !b.is:
		return 0
	}
	if slices.Compare([]int{b.super.Epoch, b.super.Seq}, []int{a.super.Epoch, a.super.Seq}) > 0 {
		return 1
	}
	return 0
}

// chooses is that Choose answers what the words say, of a and b.
func chooses(t *testing.T, a, b candidate, what ...any) {
	t.Helper()
	got, slot, ok := replay.Choose(a.bytes, b.bytes)
	var want api.Super
	wantSlot := chosen(a, b)
	wantOK := wantSlot >= 0
	if wantOK {
		want = []candidate{a, b}[wantSlot].super
	} else {
		wantSlot = 0
	}
	if got != want || slot != wantSlot || ok != wantOK {
		t.Fatal(a.super, b.super, "chosen", got, slot, ok, "wanted", want, wantSlot, wantOK, what)
	}
}

// The chapter's examples.
func TestChooseExamples(t *testing.T) {
	noughts := make([]byte, 4096)
	for i, x := range []struct {
		a, b []byte
		want api.Super
		slot int
		ok   bool
	}{
		{superBytes(S(1, 5)), superBytes(S(2, 1)), S(2, 1), 1, true},
		{superBytes(S(1, 5)), superBytes(S(1, 6)), S(1, 6), 1, true},
		{superBytes(S(1, 5)), superBytes(S(1, 5)), S(1, 5), 0, true},
		{noughts, superBytes(S(1, 1)), S(1, 1), 1, true},
		{noughts, noughts, api.Super{}, 0, false},
	} {
		if got, slot, ok := replay.Choose(x.a, x.b); got != x.want || slot != x.slot || ok != x.ok {
			t.Error(i, got, slot, ok)
		}
	}
}

// The bytes of these tests are those that layer 3 makes.
func TestSuperBytes(t *testing.T) {
	for _, c := range superblocks() {
		if b, err := super.PutSuper(c.super); err != api.OK || !bytes.Equal(b, c.bytes) {
			t.Fatal(c.super, err)
		}
	}
}

// P10.1: each of them beside each, either way round.
func TestChooseOfAnyTwo(t *testing.T) {
	all := append(nones(), superblocks()...)
	counts := make([]int, 3)
	for _, a := range all {
		for _, b := range all {
			chooses(t, a, b)
			counts[chosen(a, b)+1]++
		}
	}
	if slices.Contains(counts, 0) {
		t.Fatal("some answer was never wanted", counts)
	}
}

// P10.1: of the same Epoch and Seq the first one counts, whatever the other numbers are.
func TestChooseOfTheSame(t *testing.T) {
	for _, x := range []api.Super{S(1, 5), {Blocks: 64, Epoch: 1, Seq: 5, Tail: 3}, {Blocks: 65, Epoch: 1, Seq: 5}, {Blocks: 512, Epoch: 1, Seq: 5, Tail: 511}} {
		for _, y := range []api.Super{S(1, 5), {Blocks: 64, Epoch: 1, Seq: 5, Tail: 7}, {Blocks: 66, Epoch: 1, Seq: 5}} {
			if got, slot, ok := replay.Choose(superBytes(x), superBytes(y)); got != x || slot != 0 || !ok {
				t.Error(x, y, got, slot, ok)
			}
		}
	}
}

// P10.1: a superblock of which one byte is turned does not count, beside one that does and beside none, either way round.
func TestChooseWithATurnedByte(t *testing.T) {
	greater := superBytes(S(9, 9))
	beside := []candidate{{}, {bytes: make([]byte, 4096)}, superblock(S(1, 1)), superblock(S(9, 9)), superblock(S(10, 1))}
	for at := range greater {
		masks := []byte{0x01, 0x80, 0xff}
		if at < 44 {
			masks = masks[:0]
			for mask := 1; mask < 256; mask++ {
				masks = append(masks, byte(mask))
			}
		}
		for _, mask := range masks {
			greater[at] ^= mask
			turned := candidate{bytes: greater}
			for _, other := range beside {
				chooses(t, turned, other, at, mask)
				chooses(t, other, turned, at, mask)
			}
			greater[at] ^= mask
		}
	}
}

// P10.1: two superblocks by chance, some of them torn by sectors with noughts or other bytes.
func TestChooseByChance(t *testing.T) {
	chance := rand.New(rand.NewSource(1))
	one := func() candidate {
		c := superblock(api.Super{Blocks: 64 + chance.Intn(449), Epoch: 1 + chance.Intn(3), Seq: 1 + chance.Intn(3), Tail: chance.Intn(512)})
		switch chance.Intn(6) {
		case 0:
			clear(c.bytes[:512])
			c = candidate{bytes: c.bytes}
		case 1:
			copy(c.bytes[512*(1+chance.Intn(7)):], mixed(chance.Intn(9), 1)[:512])
			c = candidate{bytes: c.bytes}
		case 2:
			clear(c.bytes[512:]) // noughts already
		}
		return c
	}
	for range 20000 {
		chooses(t, one(), one())
	}
}

// R3: what is handed in stays, its spare room too; R4: the same again.
func TestChooseLeavesItsArguments(t *testing.T) {
	for _, a := range append(nones(), superblock(S(1, 5)), superblock(S(3, 2))) {
		for _, b := range append(nones(), superblock(S(1, 6))) {
			room := slices.Concat(a.bytes, filled(0xaa), b.bytes, filled(0xbb))
			was := bytes.Clone(room)
			x, y := a, b
			x.bytes = room[:len(a.bytes)]
			y.bytes = room[len(a.bytes)+4096:][:len(b.bytes)]
			chooses(t, x, y)
			chooses(t, x, y)
			if !bytes.Equal(room, was) {
				t.Fatal("changed", a.super, b.super)
			}
		}
	}
}
