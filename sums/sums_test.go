package sums_test

import (
	"bytes"
	"hash/crc32"
	"math"
	"math/bits"
	"math/rand"
	"testing"

	"ledgerstone/sums"
)

// lengths are those that the tests of whole lists go through: none, one, few and many bytes.
func lengths() []int {
	return []int{0, 1, 2, 3, 4, 5, 7, 8, 9, 31, 32, 33, 255, 256, 257, 4096}
}

// someBytes is n bytes in no order, the same in each run.
func someBytes(n int, seed int64) []byte {
	b := make([]byte, n)
	rand.New(rand.NewSource(seed)).Read(b)
	return b
}

// someSums are sums to go on behind: the edges, each bit alone, and some others.
func someSums() []uint32 {
	all := []uint32{0, 1, 0x7fffffff, 0x80000000, 0x82F63B78, ^uint32(0x82F63B78), math.MaxUint32}
	for i := range 32 {
		all = append(all, 1<<i, ^uint32(1<<i))
	}
	chance := rand.New(rand.NewSource(7))
	for range 20 {
		all = append(all, chance.Uint32())
	}
	return all
}

// remainder is the chapter's words bit by bit on a register of 32 bools (the lowest first), so that it shares no way with the program.
func remainder(sum uint32, b []byte) uint32 {
	var register [32]bool
	for i := range register {
		register[i] = sum>>i&1 == 0
	}
	for _, octet := range b {
		for i := range 8 {
			unlike := register[0] != (octet/byte(1<<i)%2 == 1)
			copy(register[:], register[1:])
			register[31] = false
			for j := range register {
				if unlike && uint32(0x82F63B78)>>j&1 == 1 {
					register[j] = !register[j]
				}
			}
		}
	}
	var out uint32
	for i := range register {
		if !register[i] {
			out |= 1 << i
		}
	}
	return out
}

func xor(lists ...[]byte) []byte {
	out := make([]byte, len(lists[0]))
	for _, b := range lists {
		for i := range b {
			out[i] ^= b[i]
		}
	}
	return out
}

// Chapter 2, example 1.
func TestExampleDigits(t *testing.T) {
	if s := sums.Crc(nil); s != 0 {
		t.Errorf("none: %08X", s)
	}
	digits := []byte{0x31, 0x32, 0x33, 0x34, 0x35, 0x36, 0x37, 0x38, 0x39}
	if s := sums.Crc(digits); s != 0xE3069283 {
		t.Errorf("1 to 9: %08X", s)
	}
	if s := sums.More(sums.Crc(digits[:4]), digits[4:]); s != 0xE3069283 {
		t.Errorf("1 to 4, then 5 to 9: %08X", s)
	}
}

// Chapter 2, example 2.
func TestExampleThirtyTwo(t *testing.T) {
	if s := sums.Crc(make([]byte, 32)); s != 0x8A9136AA {
		t.Errorf("00: %08X", s)
	}
	if s := sums.Crc(bytes.Repeat([]byte{0xFF}, 32)); s != 0x62A8AB43 {
		t.Errorf("FF: %08X", s)
	}
	rising := make([]byte, 32)
	for i := range rising {
		rising[i] = byte(i)
	}
	if s := sums.Crc(rising); s != 0x46DD794E {
		t.Errorf("00 to 1F: %08X", s)
	}
}

// P2.1: Crc is the remainder, for each list of one byte, for all of two, and for longer ones.
func TestCrcIsTheRemainder(t *testing.T) {
	check := func(b []byte) {
		t.Helper()
		if got, want := sums.Crc(b), remainder(0, b); got != want {
			t.Fatalf("%d bytes, %x ..: %08X, asked %08X", len(b), b[:min(len(b), 8)], got, want)
		}
	}
	for i := range 256 {
		check([]byte{byte(i)})
		for j := range 256 {
			check([]byte{byte(i), byte(j)})
		}
	}
	for _, n := range lengths() {
		check(make([]byte, n))
		check(bytes.Repeat([]byte{0xFF}, n))
		check(someBytes(n, int64(n)))
	}
}

// P2.1: More begins with any sum, turned, at lists of none, one and many bytes.
func TestMoreIsTheRemainder(t *testing.T) {
	for _, sum := range someSums() {
		for _, n := range lengths() {
			if n > 300 {
				continue
			}
			b := someBytes(n, int64(n))
			if got, want := sums.More(sum, b), remainder(sum, b); got != want {
				t.Fatalf("%08X, %d bytes: %08X, asked %08X", sum, n, got, want)
			}
		}
		for i := range 256 {
			b := []byte{byte(i)}
			if got, want := sums.More(sum, b), remainder(sum, b); got != want {
				t.Fatalf("%08X, %x: %08X, asked %08X", sum, b, got, want)
			}
		}
	}
}

// P2.1: the remainder is a known one; the library's own way goes through long lists.
func TestLongLists(t *testing.T) {
	known := crc32.MakeTable(crc32.Castagnoli)
	for _, n := range []int{65535, 65536, 1<<20 + 3} {
		b := someBytes(n, int64(n))
		if got, want := sums.Crc(b), crc32.Checksum(b, known); got != want {
			t.Errorf("%d bytes: %08X, asked %08X", n, got, want)
		}
		for _, sum := range []uint32{1, 0xDEADBEEF, math.MaxUint32} {
			if got, want := sums.More(sum, b), crc32.Update(sum, known, b); got != want {
				t.Errorf("%08X, %d bytes: %08X, asked %08X", sum, n, got, want)
			}
		}
	}
}

// P2.1: More(Crc(a), b) is Crc of a and b behind it, wherever a list is cut, in two and in three.
func TestMoreGoesOn(t *testing.T) {
	for _, n := range []int{0, 1, 2, 9, 64, 257} {
		b := someBytes(n, int64(n)+100)
		whole := sums.Crc(b)
		for cut := range n + 1 {
			if got := sums.More(sums.Crc(b[:cut]), b[cut:]); got != whole {
				t.Fatalf("%d bytes cut at %d: %08X, whole %08X", n, cut, got, whole)
			}
			half := cut / 2
			if got := sums.More(sums.More(sums.Crc(b[:half]), b[half:cut]), b[cut:]); got != whole {
				t.Fatalf("%d bytes cut at %d and %d: %08X, whole %08X", n, half, cut, got, whole)
			}
		}
	}
}

// P2.1: what goes on behind any other sum may be cut as well; no bytes leave a sum as it is.
func TestMoreBehindAnySum(t *testing.T) {
	b := someBytes(40, 3)
	for _, sum := range someSums() {
		if got := sums.More(sum, nil); got != sum {
			t.Errorf("none behind %08X: %08X", sum, got)
		}
		if got := sums.More(sum, []byte{}); got != sum {
			t.Errorf("empty behind %08X: %08X", sum, got)
		}
		for cut := range len(b) + 1 {
			if got, want := sums.More(sums.More(sum, b[:cut]), b[cut:]), sums.More(sum, b); got != want {
				t.Fatalf("%08X, cut at %d: %08X, whole %08X", sum, cut, got, want)
			}
		}
	}
}

// P2.2: More(0, b) is Crc(b).
func TestMoreOfNought(t *testing.T) {
	for _, n := range lengths() {
		for _, b := range [][]byte{make([]byte, n), bytes.Repeat([]byte{0xFF}, n), someBytes(n, int64(n))} {
			if more, crc := sums.More(0, b), sums.Crc(b); more != crc {
				t.Errorf("%d bytes: More %08X, Crc %08X", n, more, crc)
			}
		}
	}
	for i := range 256 {
		if more, crc := sums.More(0, []byte{byte(i)}), sums.Crc([]byte{byte(i)}); more != crc {
			t.Errorf("%02x: More %08X, Crc %08X", i, more, crc)
		}
	}
}

// P2.2: of three lists as long, held against each other by xor, Crc is their Crc held so.
func TestThreeListsByXor(t *testing.T) {
	check := func(a, b, c []byte) {
		t.Helper()
		got, want := sums.Crc(xor(a, b, c)), sums.Crc(a)^sums.Crc(b)^sums.Crc(c)
		if got != want {
			t.Fatalf("%d bytes: %08X, asked %08X", len(a), got, want)
		}
	}
	for _, n := range lengths() {
		a, b, c := someBytes(n, 11), someBytes(n, 12), someBytes(n, 13)
		noughts, ones := make([]byte, n), bytes.Repeat([]byte{0xFF}, n)
		check(a, b, c)
		check(a, b, noughts)
		check(a, ones, noughts)
		check(a, a, b)
		check(a, a, a)
		check(noughts, noughts, noughts)
	}
	for i := range 256 {
		for j := range 256 {
			check([]byte{byte(i)}, []byte{byte(j)}, []byte{0xA5})
		}
	}
}

// changed is b with the bytes of by taken xor those from at on.
func changed(b []byte, at int, by []byte) []byte {
	out := bytes.Clone(b)
	for i := range by {
		out[at+i] ^= by[i]
	}
	return out
}

// P2.2: each change of one byte, and changes of all kinds within four bytes next to each other, at every place.
func TestShortChangesTell(t *testing.T) {
	chance := rand.New(rand.NewSource(21))
	for _, n := range []int{1, 2, 3, 4, 5, 8, 33, 70} {
		b := someBytes(n, int64(n)+200)
		before := sums.Crc(b)
		check := func(at int, by []byte) {
			t.Helper()
			if sums.Crc(changed(b, at, by)) == before {
				t.Fatalf("%d bytes, %x at %d: the sum stays %08X", n, by, at, before)
			}
		}
		for at := range n {
			for i := 1; i < 256; i++ {
				check(at, []byte{byte(i)})
			}
			width := min(4, n-at)
			check(at, bytes.Repeat([]byte{0xFF}, width))
			check(at, []byte{0x78, 0x3B, 0xF6, 0x82}[:width])
			check(at, []byte{0x82, 0xF6, 0x3B, 0x78}[:width])
			for range 100 {
				by := make([]byte, width)
				chance.Read(by)
				by[0] |= 1
				check(at, by)
			}
		}
	}
}

// P2.2: of all 2^32 changes of four bytes at a place none is missed. Changes go by xor (the test above), so it does that those of one bit are independent.
func TestNoShortChangeIsMissed(t *testing.T) {
	for _, n := range []int{4, 5, 32, 100} {
		b := someBytes(n, int64(n)+300)
		before := sums.Crc(b)
		for at := range n - 3 {
			var basis [32]uint32
			rank := 0
			for bit := range 32 {
				by := make([]byte, 4)
				by[bit/8] = 1 << (bit % 8)
				if put(&basis, sums.Crc(changed(b, at, by))^before) {
					rank++
				}
			}
			if rank != 32 {
				t.Fatalf("%d bytes, at %d: rank %d", n, at, rank)
			}
		}
	}
}

// put lays v into the basis; false if v follows from what lies there.
func put(basis *[32]uint32, v uint32) bool {
	for v != 0 {
		top := bits.Len32(v) - 1
		if basis[top] == 0 {
			basis[top] = v
			return true
		}
		v ^= basis[top]
	}
	return false
}

// R3: neither the bytes nor their spare room are changed, and spare room is not read.
func TestInputsStay(t *testing.T) {
	for _, n := range []int{0, 1, 8, 40} {
		room := someBytes(n+16, int64(n)+400)
		before := bytes.Clone(room)
		b := room[:n]
		crc, more := sums.Crc(b), sums.More(0xDEADBEEF, b)
		if !bytes.Equal(room, before) {
			t.Errorf("%d bytes: changed", n)
		}
		if want := remainder(0, before[:n]); crc != want {
			t.Errorf("%d bytes: Crc %08X, asked %08X", n, crc, want)
		}
		if want := remainder(0xDEADBEEF, before[:n]); more != want {
			t.Errorf("%d bytes: More %08X, asked %08X", n, more, want)
		}
	}
}

// R3, R4: nothing is kept from call to call.
func TestNothingIsKept(t *testing.T) {
	b := someBytes(50, 5)
	crc, more := sums.Crc(b), sums.More(77, b)
	sums.Crc(someBytes(9, 6))
	sums.More(78, someBytes(10, 7))
	if again := sums.Crc(b); again != crc {
		t.Errorf("Crc %08X, then %08X", crc, again)
	}
	if again := sums.More(77, b); again != more {
		t.Errorf("More %08X, then %08X", more, again)
	}
	b[0] ^= 1
	if again := sums.Crc(b); again == crc {
		t.Error("Crc of changed bytes is that of the old ones")
	}
}

// R1, R6: no bytes at all, as none and as an empty list.
func TestNoBytes(t *testing.T) {
	if s := sums.Crc(nil); s != 0 {
		t.Errorf("none: %08X", s)
	}
	if s := sums.Crc([]byte{}); s != 0 {
		t.Errorf("empty: %08X", s)
	}
	if s := sums.Crc([]byte{1, 2, 3}[:0]); s != 0 {
		t.Errorf("empty with room: %08X", s)
	}
}
