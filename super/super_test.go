package super_test

import (
	"bytes"
	"encoding/binary"
	"hash/crc32"
	"math"
	"math/rand"
	"slices"
	"testing"

	"ledgerstone/api"
	"ledgerstone/super"
)

// sumOf is the sum that the chapter means, by the library, so that it shares no way with the program.
func sumOf(b []byte) uint32 {
	return crc32.Checksum(b, crc32.MakeTable(crc32.Castagnoli))
}

// setSum writes the right sum of of to at: bytes that are wrong in nothing but their form.
func setSum(b []byte, at int, of []byte) {
	binary.BigEndian.PutUint32(b[at:], sumOf(of))
}

// edge is a number that may be from Low to High.
type edge struct{ Low, High int }

// inside are numbers that may be, outside are those that may not, both near the bounds and far from them.
func (e edge) inside() []int {
	return []int{e.Low, e.Low + 1, (e.Low + e.High) / 2, e.High - 1, e.High}
}

func (e edge) outside() []int {
	far := []int{math.MinInt, math.MinInt + 1, math.MinInt32, -1000, e.Low - 1, e.High + 1, e.High + 1000,
		e.High + 1<<16, e.High + 1<<32, e.Low + 1<<16, e.Low + 1<<32, e.Low + math.MinInt, 1 << 62, math.MaxInt - 1, math.MaxInt}
	return slices.DeleteFunc(far, func(v int) bool { return e.Low <= v && v <= e.High })
}

// withSpare is a copy of l with room behind it that is filled with fill.
func withSpare[T any](l []T, spare int, fill T) []T {
	room := make([]T, len(l), len(l)+spare)
	copy(room, l)
	for range spare {
		room = append(room, fill)
	}
	return room[:len(l)]
}

func wholeRoom[T any](l []T) []T {
	return l[:cap(l)]
}

// burst changes a few of the width bytes from at on, one of them for sure.
func burst(b []byte, at, width int, chance *rand.Rand) []byte {
	out := bytes.Clone(b)
	for bytes.Equal(out, b) {
		for i := range width {
			out[at+i] = b[at+i] ^ byte(chance.Intn(256))*byte(chance.Intn(2))
		}
	}
	return out
}

// bursts are changes within four bytes next to each other, all of them from low to high - 1, at every place.
func bursts(b []byte, low, high int, visit func(changed []byte, at int)) {
	chance := rand.New(rand.NewSource(int64(low)))
	for at := low; at < high; at++ {
		width := min(4, high-at)
		visit(burst(b, at, width, chance), at)
		one := bytes.Clone(b)
		one[at] ^= 1 << chance.Intn(8)
		visit(one, at)
	}
}

var superEdges = [4]edge{{64, 512}, {1, 1 << 23}, {1, 1 << 39}, {0, 511}}

func superOf(v [4]int) api.Super {
	return api.Super{Blocks: v[0], Epoch: v[1], Seq: v[2], Tail: v[3]}
}

// rightSupers are supers with each number at its bounds and between them.
func rightSupers() [][4]int {
	var out [][4]int
	for i, e := range superEdges {
		for _, v := range e.inside() {
			s := [4]int{100, 77, 99, 5}
			s[i] = v
			out = append(out, s)
		}
	}
	return append(out, [4]int{64, 1, 1, 0}, [4]int{512, 1 << 23, 1 << 39, 511}, [4]int{0x123, 0x456789, 0x56789abcde, 0x1fe})
}

// superBytes are a super's bytes as the chapter tells them, right or not, with a right sum.
func superBytes(v [4]int) []byte {
	b := make([]byte, 4096)
	copy(b, "LEDGER01")
	for i := range v {
		binary.BigEndian.PutUint64(b[8+8*i:], uint64(v[i]))
	}
	setSum(b, 40, b[:40])
	return b
}

func refuseSuper(t *testing.T, b []byte, what ...any) {
	t.Helper()
	if s, e := super.GetSuper(b); e != api.ErrForm || s != (api.Super{}) {
		t.Error(append([]any{s, e}, what...)...)
	}
}

// Chapter 3, example 1.
func TestExampleSuper(t *testing.T) {
	b, e := super.PutSuper(api.Super{Blocks: 64, Epoch: 1, Seq: 1, Tail: 0})
	if e != api.OK || len(b) != 4096 {
		t.Fatal(len(b), e)
	}
	head := "LEDGER01" + "\x00\x00\x00\x00\x00\x00\x00\x40" + "\x00\x00\x00\x00\x00\x00\x00\x01" + "\x00\x00\x00\x00\x00\x00\x00\x01" + "\x00\x00\x00\x00\x00\x00\x00\x00"
	if string(b[:40]) != head {
		t.Errorf("%x", b[:40])
	}
	if sum := binary.BigEndian.Uint32(b[40:44]); sum != sumOf([]byte(head)) {
		t.Errorf("%08x", sum)
	}
	if !bytes.Equal(b[44:], make([]byte, 4052)) {
		t.Error("noughts")
	}
	if b, e := super.PutSuper(api.Super{Blocks: 63, Epoch: 1, Seq: 1, Tail: 0}); e != api.ErrArg || b != nil {
		t.Error(b, e)
	}
	if b, e := super.PutSuper(api.Super{Blocks: 64, Epoch: 0, Seq: 1, Tail: 0}); e != api.ErrArg || b != nil {
		t.Error(b, e)
	}
}

// P3.1, P3.2: the bytes of right supers, and back.
func TestSupersAreTheirBytes(t *testing.T) {
	for _, v := range rightSupers() {
		want := superBytes(v)
		b, e := super.PutSuper(superOf(v))
		if e != api.OK || !bytes.Equal(b, want) {
			t.Error(v, e)
		}
		s, e := super.GetSuper(want)
		if e != api.OK || s != superOf(v) {
			t.Error(v, s, e)
		}
	}
}

// P3.1: one number out of its bounds is refused, in the bytes too, whose sum is right.
func TestSupersOutOfBoundsAreRefused(t *testing.T) {
	for i, e := range superEdges {
		for _, v := range e.outside() {
			for _, others := range [][4]int{{100, 77, 99, 5}, {64, 1, 1, 0}, {512, 1 << 23, 1 << 39, 511}} {
				s := others
				s[i] = v
				if b, e := super.PutSuper(superOf(s)); e != api.ErrArg || b != nil {
					t.Error(s, e)
				}
				refuseSuper(t, superBytes(s), s)
			}
		}
	}
	if b, e := super.PutSuper(api.Super{}); e != api.ErrArg || b != nil {
		t.Error(e)
	}
}

// P3.1: other letters with a right sum of them are none of a super.
func TestSupersWithOtherLettersAreRefused(t *testing.T) {
	for at := range 8 {
		for change := 1; change < 256; change++ {
			b := superBytes([4]int{64, 1, 1, 0})
			b[at] ^= byte(change)
			setSum(b, 40, b[:40])
			refuseSuper(t, b, at, change)
		}
	}
}

// P3.1: too few bytes, too many, none.
func TestSupersOfOtherLengthsAreRefused(t *testing.T) {
	b := superBytes([4]int{100, 77, 99, 5})
	refuseSuper(t, nil)
	refuseSuper(t, []byte{})
	for n := range b {
		refuseSuper(t, b[:n], n)
	}
	for _, more := range []int{1, 2, 64, 4096} {
		refuseSuper(t, append(bytes.Clone(b), make([]byte, more)...), more)
	}
	refuseSuper(t, append(bytes.Clone(b), b...))
	refuseSuper(t, append([]byte{0}, b...))
	refuseSuper(t, append([]byte{0}, b[:4095]...))
	refuseSuper(t, make([]byte, 4096))
	// The bytes behind a shorter list are not of it, though they lie in its room.
	refuseSuper(t, b[:4095:4096])
	refuseSuper(t, b[:44])
}

// P3.2: each byte changed, in the noughts too, to all other values near the front and some behind.
func TestSupersWithAByteChangedAreRefused(t *testing.T) {
	b := superBytes([4]int{100, 77, 99, 5})
	for at := range b {
		was := b[at]
		for change := 1; change < 256; change++ {
			if at < 60 || change&(change-1) == 0 || change == 255 {
				b[at] = was ^ byte(change)
				refuseSuper(t, b, at, change)
			}
		}
		b[at] = was
	}
}

// P3.2: changes within four bytes of what the sum is of, of the sum, of what stands behind.
func TestSupersWithABurstAreRefused(t *testing.T) {
	for _, v := range rightSupers() {
		b := superBytes(v)
		for _, part := range [][2]int{{0, 40}, {40, 44}} {
			for range 20 {
				bursts(b, part[0], part[1], func(changed []byte, at int) { refuseSuper(t, changed, v, at) })
			}
		}
	}
	bursts(superBytes([4]int{64, 1, 1, 0}), 40, 4096, func(changed []byte, at int) { refuseSuper(t, changed, at) })
}

// P3.2: a number that is right changed to another right one, the sum left as it was.
func TestSupersWithAnotherSumAreRefused(t *testing.T) {
	for _, v := range rightSupers() {
		for _, w := range rightSupers() {
			b := superBytes(v)
			copy(b[40:44], superBytes(w)[40:44])
			if v != w && !bytes.Equal(b, superBytes(v)) {
				refuseSuper(t, b, v, w)
			}
		}
	}
}

// R3: bytes that are handed in stay, their spare room too; those handed out are new each time.
func TestSuperSharesNothing(t *testing.T) {
	b := withSpare(superBytes([4]int{100, 77, 99, 5}), 50, 0xee)
	was := bytes.Clone(wholeRoom(b))
	super.GetSuper(b)
	if !bytes.Equal(wholeRoom(b), was) {
		t.Error("handed in")
	}
	one, _ := super.PutSuper(api.Super{Blocks: 64, Epoch: 1, Seq: 1})
	two, _ := super.PutSuper(api.Super{Blocks: 64, Epoch: 1, Seq: 1})
	spoil(one)
	if !bytes.Equal(two, superBytes([4]int{64, 1, 1, 0})) {
		t.Error("handed out")
	}
}

func spoil(b []byte) {
	b = wholeRoom(b)
	for i := range b {
		b[i] ^= 0xa5
	}
}

// R1, P3.2: whatever the bytes, no call panics, and what is taken is put as the same bytes.
func TestGetOfAnyBytes(t *testing.T) {
	chance := rand.New(rand.NewSource(3))
	inode, _ := super.PutInode(api.Inode{Kind: api.File, Links: 1, Direct: []api.Extent{{At: 1, Start: 2, Count: 3}}})
	node, _ := super.PutNode([]api.Extent{{At: 1, Start: 2, Count: 3}, {At: 9, Start: 2, Count: 3}})
	for range 3000 {
		n := []int{0, 1, 2, 3, 4, 7, 8, 9, 40, 44, 63, 64, 65, 4095, 4096, 4097}[chance.Intn(16)]
		b := make([]byte, n)
		switch chance.Intn(5) {
		case 0:
			chance.Read(b)
		case 1:
			copy(b, superBytes([4]int{64, 1, 1, 0}))
		case 2:
			copy(b, inode)
		case 3:
			copy(b, node)
		}
		for range min(n, chance.Intn(3)) {
			b[chance.Intn(n)] ^= byte(chance.Intn(256))
		}
		checkTaken(t, b)
	}
}

func checkTaken(t *testing.T, b []byte) {
	t.Helper()
	if s, e := super.GetSuper(b); e == api.OK {
		if p, e := super.PutSuper(s); e != api.OK || !bytes.Equal(p, b) {
			t.Error(s, e)
		}
	} else if e != api.ErrForm {
		t.Error(e)
	}
	if n, e := super.GetInode(b); e == api.OK {
		if p, e := super.PutInode(n); e != api.OK || !bytes.Equal(p, b) {
			t.Error(n, e)
		}
	} else if e != api.ErrForm {
		t.Error(e)
	}
	if l, e := super.GetNode(b); e == api.OK {
		if p, e := super.PutNode(l); e != api.OK || !bytes.Equal(p, b) {
			t.Error(l, e)
		}
	} else if e != api.ErrForm {
		t.Error(e)
	}
}
