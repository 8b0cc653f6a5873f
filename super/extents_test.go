package super_test

import (
	"bytes"
	"encoding/binary"
	"math"
	"math/big"
	"math/rand"
	"slices"
	"testing"

	"ledgerstone/api"
	"ledgerstone/super"
)

// side is count extents of one block each, side by side.
func side(count int) []api.Extent {
	var l []api.Extent
	for i := range count {
		l = append(l, api.Extent{At: i, Start: 1 + i, Count: 1})
	}
	return l
}

// runs are the extents whose numbers stand one behind the other: At, Start, Count of each.
func runs(v ...int) []api.Extent {
	var l []api.Extent
	for i := 0; i < len(v); i += 3 {
		l = append(l, api.Extent{At: v[i], Start: v[i+1], Count: v[i+2]})
	}
	return l
}

func lists(all [][]int) [][]api.Extent {
	var out [][]api.Extent
	for _, v := range all {
		out = append(out, runs(v...))
	}
	return out
}

func behind(l []api.Extent, v ...int) []api.Extent {
	return append(l, runs(v...)...)
}

// isRight is the chapter's words on numbers that can't wrap round.
func isRight(l []api.Extent) bool {
	limit := big.NewInt(512)
	end := big.NewInt(0)
	for _, e := range l {
		at, start, count := big.NewInt(int64(e.At)), big.NewInt(int64(e.Start)), big.NewInt(int64(e.Count))
		if count.Sign() < 1 || at.Sign() < 0 || start.Sign() < 1 || at.Cmp(end) < 0 {
			return false
		}
		end = new(big.Int).Add(at, count)
		if end.Cmp(limit) > 0 || new(big.Int).Add(start, count).Cmp(limit) > 0 {
			return false
		}
	}
	return true
}

func rightLists() [][]api.Extent {
	return append(lists([][]int{
		nil,
		{0, 1, 1},
		{0, 1, 511},     // Start and Count at their bound
		{511, 1, 1},     // At and Count at their bound
		{511, 511, 1},   // both
		{1, 1, 511},     // both, and as many as can be
		{0, 511, 1},     // the last block
		{255, 256, 256}, // a byte's bound
		{0, 30, 2, 2, 40, 1},
		{0, 30, 2, 3, 40, 1},
		{0, 40, 2, 2, 30, 1},           // Starts in any order
		{0, 30, 2, 2, 30, 2, 4, 30, 2}, // and the same ones: nothing is said of them
		{0, 1, 256, 256, 257, 255, 511, 511, 1},
	}), []api.Extent{}, side(3), side(4), side(249), side(250), side(251), side(511), behind(side(511), 511, 1, 1))
}

func wrongLists() [][]api.Extent {
	out := lists([][]int{
		{0, 0, 0}, {0, 0, 1}, {0, -1, 1}, {-1, 1, 1}, {0, 1, 0}, {0, 1, -1}, {5, 5, 0},
		{0, 1, 512}, {2, 1, 511}, {1, 2, 511}, {512, 1, 1}, {0, 512, 1}, {511, 1, 2}, {0, 511, 2},
		{512, 1, 0}, {0, 1, 513}, {0, 65535, 1}, {65535, 1, 1}, {0, 1, 65535}, {65535, 65535, 65535},
		{0, 30, 2, 1, 40, 1}, {0, 30, 2, 0, 40, 2}, {0, 30, 2, 0, 30, 2},
		{2, 40, 1, 0, 30, 2}, {2, 40, 1, 1, 30, 1}, {5, 40, 10, 14, 60, 1},
		{0, 30, 2, 2, 40, 1, 2, 50, 1}, {0, 30, 2, 5, 40, 1, 2, 50, 1}, {0, 30, 10, 10, 40, 1, 5, 50, 1},
		{0, 30, 2, 2, 40, 0}, {0, 30, 2, 2, 0, 1}, {0, 30, 2, 0, 0, 0}, {0, 0, 0, 0, 30, 2},
		{0, 1, 256, 256, 257, 255, 511, 511, 2}, {0, 1, 256, 256, 257, 256},
	})
	out = append(out, behind(side(249), 248, 1, 1), behind(side(249), 0, 0, 0), behind(side(250), 249, 1, 1),
		behind(side(511), 510, 1, 1), behind(side(511), 512, 1, 1), side(512))
	for _, v := range []int{math.MinInt, math.MinInt + 1, math.MinInt32, -65536, -512, -1, 513, 1 << 16, 1<<16 + 1, 1 << 32, 1<<32 + 1, 1 << 62, math.MaxInt - 1, math.MaxInt} {
		out = append(out, lists([][]int{{v, 1, 1}, {0, v, 1}, {0, 1, v}, {v, v, v}, {0, v, v}, {v, 1, v},
			{0, 30, 2, v, 40, 1}, {0, 30, 2, 2, v, 1}, {0, 30, 2, 2, 40, v}})...)
	}
	for _, v := range []int{math.MaxInt, math.MinInt, 1 << 62} { // sums that wrap round into the bounds
		out = append(out, lists([][]int{{v, 1, -v}, {v, 1, -v + 1}, {0, v, -v}, {0, v, -v + 1}, {-v, 1, v}, {0, -v, v}, {1 - v, 1 - v, v}})...)
	}
	return out
}

// fitsBytes is whether each number fits into its two bytes.
func fitsBytes(l []api.Extent) bool {
	for _, e := range l {
		for _, v := range []int{e.At, e.Start, e.Count} {
			if v < 0 || v > math.MaxUint16 {
				return false
			}
		}
	}
	return true
}

// nodeBytes are the bytes of a block of extents as the chapter tells them, right or not, with a right sum.
func nodeBytes(l []api.Extent) []byte {
	b := make([]byte, 4096)
	binary.BigEndian.PutUint16(b, uint16(len(l)))
	for i, e := range l {
		putExtent(b[8+6*i:], e)
	}
	setSum(b, 4, b[8:])
	return b
}

func refuseNode(t *testing.T, b []byte, what ...any) {
	t.Helper()
	if l, e := super.GetNode(b); e != api.ErrForm || l != nil {
		t.Error(append([]any{l, e}, what...)...)
	}
}

// Chapter 3, example 3.
func TestExampleNode(t *testing.T) {
	b, e := super.PutNode(nil)
	if e != api.OK || len(b) != 4096 || !bytes.Equal(b[:4], make([]byte, 4)) || !bytes.Equal(b[8:], make([]byte, 4088)) {
		t.Fatal(len(b), e)
	}
	if sum := binary.BigEndian.Uint32(b[4:]); sum != sumOf(make([]byte, 4088)) || sum == 0 {
		t.Errorf("%08x", sum)
	}
	if !super.Right(runs(0, 30, 2, 2, 40, 1)) {
		t.Error("they touch")
	}
	if super.Right(runs(0, 30, 2, 1, 40, 1)) {
		t.Error("they overlap")
	}
}

// P3.1: right extents, however many.
func TestRightListsAreRight(t *testing.T) {
	for _, l := range rightLists() {
		if !isRight(l) {
			t.Fatal("the test itself", l)
		}
		if !super.Right(l) {
			t.Error(l)
		}
	}
}

// P3.1: and such as are not.
func TestWrongListsAreNotRight(t *testing.T) {
	for _, l := range wrongLists() {
		if isRight(l) {
			t.Fatal("the test itself", l)
		}
		if super.Right(l) {
			t.Error(l)
		}
	}
}

// P3.1: all mixes of numbers near the bounds, of one extent and of two.
func TestRightAtAllEdges(t *testing.T) {
	numbers := []int{math.MinInt, -1, 0, 1, 2, 255, 256, 257, 510, 511, 512, 513, math.MaxInt - 1, math.MaxInt}
	seen := map[bool]int{}
	for _, at := range numbers {
		for _, start := range numbers {
			for _, count := range numbers {
				for _, l := range lists([][]int{{at, start, count}, {0, 9, 2, at, start, count}, {0, 9, 255, at, start, count},
					{at, start, count, 511, 1, 1}, {at, start, count, at, start, count}}) {
					seen[isRight(l)]++
					if super.Right(l) != isRight(l) {
						t.Error(l)
					}
				}
			}
		}
	}
	if seen[true] < 50 || seen[false] < 50 {
		t.Error(seen)
	}
}

// P3.1: lists in no order, near enough to right ones that both come.
func TestRightOfMixedLists(t *testing.T) {
	chance := rand.New(rand.NewSource(1))
	seen := map[bool]int{}
	for range 20000 {
		var l []api.Extent
		end := 0
		for range chance.Intn(6) {
			e := api.Extent{At: end + chance.Intn(40) - 2, Start: chance.Intn(420), Count: chance.Intn(120)}
			end = e.At + e.Count
			l = append(l, e)
		}
		seen[isRight(l)]++
		if super.Right(l) != isRight(l) {
			t.Error(l)
		}
	}
	if seen[true] < 500 || seen[false] < 500 {
		t.Error(seen)
	}
}

// P3.1, P3.2: the bytes of right extents, and back; one more than are permitted is refused, right or not.
func TestNodesAreTheirBytes(t *testing.T) {
	for _, l := range rightLists() {
		b, e := super.PutNode(l)
		if len(l) > 250 {
			if e != api.ErrArg || b != nil {
				t.Error(len(l), e)
			}
			refuseNode(t, nodeBytes(l), len(l))
			continue
		}
		want := nodeBytes(l)
		if e != api.OK || !bytes.Equal(b, want) {
			t.Error(l, e)
		}
		if g, e := super.GetNode(want); e != api.OK || !slices.Equal(g, l) {
			t.Error(l, g, e)
		}
	}
}

// P3.1: extents that are not right, in the bytes too, whose sum is right.
func TestNodesWithWrongExtentsAreRefused(t *testing.T) {
	for _, l := range wrongLists() {
		if b, e := super.PutNode(l); e != api.ErrArg || b != nil {
			t.Error(l, e)
		}
		if fitsBytes(l) {
			refuseNode(t, nodeBytes(l), l)
		}
	}
}

// P3.1: how many are told is how many there are; nothing else may be told with these bytes behind.
func TestNodesWithAnotherCountAreRefused(t *testing.T) {
	for _, have := range []int{0, 1, 2, 249, 250, 251} {
		b := nodeBytes(side(have))
		for told := range 1 << 16 {
			if told == have && have <= 250 {
				continue
			}
			binary.BigEndian.PutUint16(b, uint16(told))
			refuseNode(t, b, have, told)
		}
	}
}

// P3.1: the two noughts, and all behind the extents, whose sum is right.
func TestNodesWithMoreBehindAreRefused(t *testing.T) {
	for _, at := range []int{2, 3} {
		for v := 1; v < 256; v++ {
			b := nodeBytes(side(5))
			b[at] = byte(v)
			refuseNode(t, b, at, v)
		}
	}
	for _, l := range [][]api.Extent{nil, side(5), side(250)} {
		for at := 8 + 6*len(l); at < 4096; at++ {
			b := nodeBytes(l)
			b[at] = byte(1 + at%255)
			setSum(b, 4, b[8:])
			refuseNode(t, b, at)
		}
	}
}

// P3.1: too few bytes, too many, none.
func TestNodesOfOtherLengthsAreRefused(t *testing.T) {
	refuseNode(t, nil)
	refuseNode(t, make([]byte, 4096))
	b := nodeBytes(side(5))
	for n := range b {
		refuseNode(t, b[:n], n)
	}
	for _, more := range []int{1, 2, 6, 4096} {
		long := append(bytes.Clone(b), make([]byte, more)...)
		refuseNode(t, long, more)
		setSum(long, 4, long[8:])
		refuseNode(t, long, more)
	}
	short := bytes.Clone(b[:4095])
	setSum(short, 4, short[8:])
	refuseNode(t, short)
}

// P3.2: each byte changed, in the noughts too, to all other values near the front and some behind.
func TestNodesWithAByteChangedAreRefused(t *testing.T) {
	for _, l := range [][]api.Extent{nil, ordinary().Direct} {
		b := nodeBytes(l)
		for at := range b {
			was := b[at]
			for change := 1; change < 256; change++ {
				if at < 32 || change == 1 || change == 128 || change == 255 {
					b[at] = was ^ byte(change)
					refuseNode(t, b, at, change)
				}
			}
			b[at] = was
		}
	}
}

// P3.2: changes within four bytes of what is ahead of the sum, of the sum, of what it is of.
func TestNodesWithABurstAreRefused(t *testing.T) {
	for _, l := range [][]api.Extent{nil, ordinary().Direct, side(250)} {
		b := nodeBytes(l)
		for _, part := range [][2]int{{0, 4}, {4, 8}, {8, 4096}} {
			bursts(b, part[0], part[1], func(changed []byte, at int) { refuseNode(t, changed, at) })
		}
	}
}

// P3.2: right extents of which one is changed to another right one are seen by the sum alone.
func TestNodesWithAnotherRightExtentAreRefused(t *testing.T) {
	b := nodeBytes(ordinary().Direct)
	for i := range 3 {
		for start := 1; start < 300; start++ {
			l := ordinary().Direct
			if l[i].Start == start {
				continue
			}
			l[i].Start = start
			changed := nodeBytes(l)
			copy(changed[4:8], b[4:8])
			refuseNode(t, changed, l)
		}
	}
}

// R3: what is handed in stays, its spare room too; what is handed out is new each time.
func TestNodeSharesNothing(t *testing.T) {
	l := withSpare(side(9), 4, api.Extent{At: -1, Start: -1, Count: -1})
	was := slices.Clone(wholeRoom(l))
	super.Right(l)
	one, _ := super.PutNode(l)
	two, _ := super.PutNode(l)
	if !slices.Equal(wholeRoom(l), was) {
		t.Error("extents handed in")
	}
	b := withSpare(two, 20, 0xee)
	kept := bytes.Clone(wholeRoom(b))
	g, _ := super.GetNode(b)
	h, _ := super.GetNode(b)
	if !bytes.Equal(wholeRoom(b), kept) {
		t.Error("bytes handed in")
	}
	spoil(one)
	clear(wholeRoom(g))
	clear(l)
	if !bytes.Equal(two, kept[:4096]) || !slices.Equal(h, was[:9]) {
		t.Error("handed out")
	}
}
