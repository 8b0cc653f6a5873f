package super_test

import (
	"bytes"
	"encoding/binary"
	"math"
	"slices"
	"testing"

	"ledgerstone/api"
	"ledgerstone/super"
)

// inodeBytes are an inode's bytes as the chapter tells them of a used one, right or not, with a right sum.
func inodeBytes(n api.Inode) []byte {
	b := make([]byte, 64)
	b[0], b[1] = byte(n.Kind), byte(len(n.Direct))
	binary.BigEndian.PutUint16(b[2:], uint16(n.Links))
	binary.BigEndian.PutUint32(b[4:], uint32(n.Size))
	for i, e := range n.Direct[:min(3, len(n.Direct))] {
		putExtent(b[8+6*i:], e)
	}
	binary.BigEndian.PutUint16(b[26:], uint16(n.Node))
	setSum(b, 60, b[:60])
	return b
}

func putExtent(b []byte, e api.Extent) {
	binary.BigEndian.PutUint16(b, uint16(e.At))
	binary.BigEndian.PutUint16(b[2:], uint16(e.Start))
	binary.BigEndian.PutUint16(b[4:], uint16(e.Count))
}

func sameInode(a, b api.Inode) bool {
	return a.Kind == b.Kind && a.Links == b.Links && a.Size == b.Size && a.Node == b.Node && slices.Equal(a.Direct, b.Direct)
}

func ordinary() api.Inode {
	return api.Inode{Kind: api.Directory, Links: 7, Size: 70000, Direct: runs(0, 30, 2, 2, 40, 1, 300, 301, 200), Node: 258}
}

// rightInodes are used inodes with each part at its bounds and between them.
func rightInodes() []api.Inode {
	out := []api.Inode{ordinary(), {Kind: api.File}, {Kind: api.Directory}}
	for _, v := range (edge{0, 100}).inside() {
		n := ordinary()
		n.Links = v
		out = append(out, n)
	}
	for _, v := range append((edge{0, 131072}).inside(), 255, 256, 65535, 65536) {
		n := ordinary()
		n.Size = v
		out = append(out, n)
	}
	for _, v := range append((edge{0, 511}).inside(), 255) {
		n := ordinary()
		n.Node = v
		out = append(out, n)
	}
	for i := range 4 {
		n := ordinary()
		n.Kind, n.Direct = api.File, n.Direct[:i]
		out = append(out, n)
	}
	for _, l := range rightLists() {
		if len(l) <= 3 {
			n := ordinary()
			n.Direct = l
			out = append(out, n)
		}
	}
	return out
}

func refuseInode(t *testing.T, b []byte, what ...any) {
	t.Helper()
	if n, e := super.GetInode(b); e != api.ErrForm || !sameInode(n, api.Inode{}) || n.Direct != nil {
		t.Error(append([]any{n, e}, what...)...)
	}
}

func refuseToPut(t *testing.T, n api.Inode) {
	t.Helper()
	if b, e := super.PutInode(n); e != api.ErrArg || b != nil {
		t.Error(n, b, e)
	}
}

// Chapter 3, example 2.
func TestExampleInode(t *testing.T) {
	if b, e := super.PutInode(api.Inode{}); e != api.OK || !bytes.Equal(b, make([]byte, 64)) {
		t.Error(b, e)
	}
	b, e := super.PutInode(api.Inode{Kind: api.File, Links: 1, Size: 5, Direct: []api.Extent{{At: 0, Start: 30, Count: 1}}})
	if e != api.OK || len(b) != 64 {
		t.Fatal(b, e)
	}
	if !bytes.Equal(b[:14], []byte{0x01, 0x01, 0x00, 0x01, 0x00, 0x00, 0x00, 0x05, 0x00, 0x00, 0x00, 0x1E, 0x00, 0x01}) {
		t.Errorf("%x", b)
	}
	if !bytes.Equal(b[14:60], make([]byte, 46)) || binary.BigEndian.Uint32(b[60:]) != sumOf(b[:60]) {
		t.Errorf("%x", b)
	}
	refuseInode(t, b[:63])
}

// P3.1, P3.2: the bytes of right inodes, and back.
func TestInodesAreTheirBytes(t *testing.T) {
	for _, n := range rightInodes() {
		want := inodeBytes(n)
		if b, e := super.PutInode(n); e != api.OK || !bytes.Equal(b, want) {
			t.Errorf("%v %v %x %x", n, e, b, want)
		}
		if g, e := super.GetInode(want); e != api.OK || !sameInode(g, n) {
			t.Error(g, n, e)
		}
	}
}

// P3.1, R6: an unused inode is noughts, whether it has no list or an empty one.
func TestUnusedInodeIsNoughts(t *testing.T) {
	for _, n := range []api.Inode{{}, {Direct: []api.Extent{}}, {Direct: make([]api.Extent, 0, 5)}} {
		if b, e := super.PutInode(n); e != api.OK || !bytes.Equal(b, make([]byte, 64)) {
			t.Error(b, e)
		}
	}
	if n, e := super.GetInode(make([]byte, 64)); e != api.OK || !sameInode(n, api.Inode{}) {
		t.Error(n, e)
	}
	refuseInode(t, inodeBytes(api.Inode{}), "an unused one has no sum")
}

// P3.1: an unused inode with something else in it, in the bytes too, whose sum is right.
func TestUnusedInodeWithMoreIsRefused(t *testing.T) {
	for _, n := range []api.Inode{
		{Links: 1}, {Links: -1}, {Links: math.MinInt}, {Links: 1 << 16}, {Links: 1 << 32},
		{Size: 1}, {Size: -1}, {Size: 1 << 32}, {Size: math.MaxInt},
		{Node: 1}, {Node: 511}, {Node: -1}, {Node: 1 << 16},
		{Direct: []api.Extent{{}}}, {Direct: runs(0, 30, 1)}, {Direct: make([]api.Extent, 256)},
		{Links: 7, Size: 70000, Node: 258, Direct: ordinary().Direct},
	} {
		refuseToPut(t, n)
		refuseInode(t, inodeBytes(n), n)
	}
	for at := range 64 {
		for v := 1; v < 256; v++ {
			b := make([]byte, 64)
			b[at] = byte(v)
			refuseInode(t, b, at, v)
			if at > 0 && at < 60 {
				setSum(b, 60, b[:60])
				refuseInode(t, b, at, v)
			}
		}
	}
}

// P3.1: all other kinds are refused.
func TestOtherKindsAreRefused(t *testing.T) {
	for kind := 3; kind < 256; kind++ {
		for _, n := range []api.Inode{{}, ordinary()} {
			n.Kind = api.Kind(kind)
			refuseToPut(t, n)
			refuseInode(t, inodeBytes(n), kind)
		}
	}
}

// P3.1: numbers out of their bounds are refused; where the bytes have room for them, there too, whose sum is right.
func TestInodesOutOfBoundsAreRefused(t *testing.T) {
	try := func(v, room int, change func(n *api.Inode)) {
		for _, kind := range []api.Kind{api.File, api.Directory} {
			for _, n := range []api.Inode{{}, ordinary()} {
				n.Kind = kind
				change(&n)
				refuseToPut(t, n)
				if v >= 0 && v < room {
					refuseInode(t, inodeBytes(n), n)
				}
			}
		}
	}
	for _, v := range append((edge{0, 100}).outside(), 65535, 255, 256, 257) {
		try(v, 1<<16, func(n *api.Inode) { n.Links = v })
	}
	for _, v := range append((edge{0, 131072}).outside(), math.MaxUint32, math.MaxInt32, 1<<31, 1<<24) {
		try(v, 1<<32, func(n *api.Inode) { n.Size = v })
	}
	for _, v := range append((edge{0, 511}).outside(), 512, 65535) {
		try(v, 1<<16, func(n *api.Inode) { n.Node = v })
	}
}

// P3.1: more than three extents, though right ones, and such as are not right.
func TestInodesWithWrongExtentsAreRefused(t *testing.T) {
	for count := 4; count < 260; count++ {
		n := ordinary()
		n.Direct = side(count)
		refuseToPut(t, n)
		if count < 256 { // beyond that the byte can't tell
			refuseInode(t, inodeBytes(n), count)
		}
	}
	for _, l := range wrongLists() {
		n := ordinary()
		n.Direct = l
		refuseToPut(t, n)
		if len(l) <= 3 && fitsBytes(l) {
			refuseInode(t, inodeBytes(n), l)
		}
	}
}

// P3.1: where there is no extent there are noughts, and how many there are is what is told; the sums are right.
func TestInodesWithAnotherCountAreRefused(t *testing.T) {
	for have := range 4 {
		for told := range 256 {
			n := ordinary()
			n.Direct = n.Direct[:have]
			b := inodeBytes(n)
			b[1] = byte(told)
			setSum(b, 60, b[:60])
			if told != have {
				refuseInode(t, b, have, told)
			}
		}
	}
}

// P3.1: what stands behind is noughts, whatever the sum.
func TestInodesWithMoreBehindAreRefused(t *testing.T) {
	for _, n := range []api.Inode{{Kind: api.File}, ordinary()} {
		first := 8 + 6*len(n.Direct)
		for at := first; at < 60; at++ {
			for v := 1; v < 256; v++ {
				b := inodeBytes(n)
				if at == 26 || at == 27 {
					continue
				}
				b[at] = byte(v)
				setSum(b, 60, b[:60])
				refuseInode(t, b, at, v)
			}
		}
	}
}

// P3.1: too few bytes, too many, none; noughts too.
func TestInodesOfOtherLengthsAreRefused(t *testing.T) {
	refuseInode(t, nil)
	b := inodeBytes(ordinary())
	for n := range 64 {
		refuseInode(t, b[:n], n)
		refuseInode(t, b[n+1:], n)
		refuseInode(t, make([]byte, n), n)
	}
	for _, more := range []int{1, 2, 4, 64, 4032} {
		refuseInode(t, append(bytes.Clone(b), make([]byte, more)...), more)
		refuseInode(t, make([]byte, 64+more), more)
	}
}

// P3.2: each byte changed to all other values.
func TestInodesWithAByteChangedAreRefused(t *testing.T) {
	for _, n := range rightInodes() {
		b := inodeBytes(n)
		for at := range b {
			was := b[at]
			for change := 1; change < 256; change++ {
				b[at] = was ^ byte(change)
				refuseInode(t, b, n, at, change)
			}
			b[at] = was
		}
	}
}

// P3.2: changes within four bytes of what the sum is of, and of the sum.
func TestInodesWithABurstAreRefused(t *testing.T) {
	for _, n := range rightInodes() {
		b := inodeBytes(n)
		for range 10 {
			bursts(b, 0, 60, func(changed []byte, at int) { refuseInode(t, changed, n, at) })
			bursts(b, 60, 64, func(changed []byte, at int) { refuseInode(t, changed, n, at) })
		}
	}
}

// P3.2: a burst that makes a right inode of another one is seen by the sum alone.
func TestInodesWithAnotherRightNumberAreRefused(t *testing.T) {
	changes := []func(n *api.Inode, v int){
		func(n *api.Inode, v int) { n.Links = v % 101 },
		func(n *api.Inode, v int) { n.Size = v },
		func(n *api.Inode, v int) { n.Node = v % 512 },
		func(n *api.Inode, v int) { n.Kind = api.Kind(1 + v%2) },
		func(n *api.Inode, v int) { n.Direct[2].Count = 1 + v%200 },
	}
	b := inodeBytes(ordinary())
	for _, change := range changes {
		for v := range 600 {
			n := ordinary()
			change(&n, v)
			changed := inodeBytes(n)
			copy(changed[60:], b[60:])
			if !bytes.Equal(changed, b) {
				refuseInode(t, changed, n)
			}
		}
	}
}

// R3: what is handed in stays, its spare room too; what is handed out is new each time.
func TestInodeSharesNothing(t *testing.T) {
	n := ordinary()
	n.Direct = withSpare(n.Direct[:2], 3, api.Extent{At: -1, Start: -1, Count: -1})
	was := slices.Clone(wholeRoom(n.Direct))
	one, _ := super.PutInode(n)
	two, _ := super.PutInode(n)
	if !slices.Equal(wholeRoom(n.Direct), was) {
		t.Error("extents handed in")
	}
	b := withSpare(two, 20, 0xee)
	kept := bytes.Clone(wholeRoom(b))
	g, _ := super.GetInode(b)
	h, _ := super.GetInode(b)
	if !bytes.Equal(wholeRoom(b), kept) {
		t.Error("bytes handed in")
	}
	spoil(one)
	clear(wholeRoom(g.Direct))
	n.Direct[0] = api.Extent{}
	if !bytes.Equal(two, kept[:64]) || !slices.Equal(h.Direct, was[:2]) {
		t.Error("handed out")
	}
	empty, _ := super.PutInode(api.Inode{})
	spoil(empty)
	if b, _ := super.PutInode(api.Inode{}); !bytes.Equal(b, make([]byte, 64)) {
		t.Error("noughts handed out")
	}
}
