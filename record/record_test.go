package record_test

import (
	"bytes"
	"encoding/binary"
	"hash/crc32"
	"math"
	"math/rand"
	"slices"
	"testing"

	"ledgerstone/api"
	"ledgerstone/record"
)

// wrongEpochs and wrongSeqs are out of bounds; some come into them where a stamp is cut to 64 bits, or its parts run into each other.
var (
	wrongEpochs = []int{math.MinInt, math.MinInt + 1, -1 << 40, -1 << 24, -1 << 23, -2, -1, 0, 1<<23 + 1, 1<<24 - 1, 1 << 24, 1<<24 + 1, 1<<32 + 1, 1<<40 + 1, 1<<62 + 1, math.MaxInt - 1, math.MaxInt}
	wrongSeqs   = []int{math.MinInt, math.MinInt + 1, -1<<40 + 1, -1 << 40, -1 << 39, -2, -1, 0, 1<<39 + 1, 1<<40 - 1, 1 << 40, 1<<40 + 1, 1<<41 + 1, 1<<62 + 1, math.MaxInt - 1, math.MaxInt}
	wrongBlocks = []int{math.MinInt, math.MinInt + 40, -1 << 32, -1 << 16, -65535, -512, -2, -1, 512, 513, 1023, 1024, 1 << 15, 65535, 1 << 16, 1<<16 + 40, 1<<32 + 40, math.MaxInt - 1, math.MaxInt}
	wrongCounts = []int{math.MinInt, math.MinInt + 1, -1 << 32, -33, -32, -2, -1, 0, 33, 34, 61, 64, 256, 1 << 16, 1<<16 + 1, 1<<32 + 1, 1 << 62, math.MaxInt - 1, math.MaxInt}

	rightEpochs = []int{1, 2, 255, 256, 1 << 22, 1<<23 - 1, 1 << 23}
	rightSeqs   = []int{1, 2, 255, 256, 1 << 32, 1 << 38, 1<<39 - 1, 1 << 39}
)

func stampBytes(epoch, seq int) []byte {
	return binary.BigEndian.AppendUint64(nil, uint64(epoch)*(1<<40)+uint64(seq))
}

// sumOf is the sum by the library, so that it shares no way with the program.
func sumOf(b []byte) uint32 {
	return crc32.Checksum(b, crc32.MakeTable(crc32.Castagnoli))
}

// headOf is a head by the chapter's words, of any numbers: what rest says, noughts behind it, under a right sum.
func headOf(epoch, seq, count int, rest []byte) []byte {
	rest = append(bytes.Clone(rest), make([]byte, 4026-len(rest))...)
	text := binary.BigEndian.AppendUint16(nil, uint16(count))
	text = binary.BigEndian.AppendUint32(text, sumOf(rest))
	text = append(text, rest...)
	var head []byte
	for s := range 8 {
		head = append(head, stampBytes(epoch, seq)...)
		head = append(head, text[504*s:504*(s+1)]...)
	}
	return head
}

// restOf is what a head says of the images.
func restOf(images []api.Image) []byte {
	var rest []byte
	for _, image := range images {
		rest = binary.BigEndian.AppendUint16(rest, uint16(image.Block))
		for at := 0; at < 4096; at += 512 {
			rest = append(rest, image.Data[at:at+8]...)
		}
	}
	return rest
}

// blocksOf is the blocks of a group by the chapter's words.
func blocksOf(g api.Group) [][]byte {
	out := [][]byte{headOf(g.Epoch, g.Seq, len(g.Images), restOf(g.Images))}
	for _, image := range g.Images {
		var b []byte
		for at := 0; at < 4096; at += 512 {
			b = append(b, stampBytes(g.Epoch, g.Seq)...)
			b = append(b, image.Data[at+8:at+512]...)
		}
		out = append(out, b)
	}
	return out
}

// headSays finds the group whose head b is by trying the only one that could be: images of noughts but for what is hidden.
func headSays(b []byte) (api.Group, bool) {
	if len(b) != 4096 {
		return api.Group{}, false
	}
	mark := binary.BigEndian.Uint64(b)
	g := api.Group{Epoch: int(mark / (1 << 40)), Seq: int(mark % (1 << 40))}
	var text []byte
	for at := 0; at < 4096; at += 512 {
		text = append(text, b[at+8:at+512]...)
	}
	count := int(binary.BigEndian.Uint16(text))
	if g.Epoch < 1 || g.Epoch > 1<<23 || g.Seq < 1 || g.Seq > 1<<39 || count < 1 || count > 32 {
		return api.Group{}, false
	}
	var seen []int
	for text = text[6:]; len(g.Images) < count; text = text[66:] {
		image := api.Image{Block: int(binary.BigEndian.Uint16(text)), Data: make([]byte, 4096)}
		for s := range 8 {
			copy(image.Data[512*s:], text[2+8*s:10+8*s])
		}
		if image.Block > 511 || slices.Contains(seen, image.Block) {
			return api.Group{}, false
		}
		seen = append(seen, image.Block)
		g.Images = append(g.Images, image)
	}
	return g, bytes.Equal(blocksOf(g)[0], b)
}

// groupOf is the group whose blocks these are, by the chapter's words.
func groupOf(blocks [][]byte) (api.Group, bool) {
	if len(blocks) == 0 {
		return api.Group{}, false
	}
	g, ok := headSays(blocks[0])
	if !ok || len(blocks) != len(g.Images)+1 {
		return api.Group{}, false
	}
	for i, b := range blocks[1:] {
		if len(b) != 4096 {
			return api.Group{}, false
		}
		for s := range 8 {
			copy(g.Images[i].Data[512*s+8:512*s+512], b[512*s+8:])
		}
	}
	return g, sameBlocks(blocksOf(g), blocks)
}

func sameBlocks(a, b [][]byte) bool {
	return slices.EqualFunc(a, b, bytes.Equal)
}

func sameGroup(a, b api.Group) bool {
	return a.Epoch == b.Epoch && a.Seq == b.Seq && slices.EqualFunc(a.Images, b.Images, func(x, y api.Image) bool {
		return x.Block == y.Block && bytes.Equal(x.Data, y.Data)
	})
}

func cloneBlocks(l [][]byte) [][]byte {
	var out [][]byte
	for _, b := range l {
		out = append(out, bytes.Clone(b))
	}
	return out
}

func cloneGroup(g api.Group) api.Group {
	g.Images = slices.Clone(g.Images)
	for i := range g.Images {
		g.Images[i].Data = bytes.Clone(g.Images[i].Data)
	}
	return g
}

func randomBytes(chance *rand.Rand, n int) []byte {
	b := make([]byte, n)
	chance.Read(b)
	return b
}

// groupWith has that many images of unlike blocks, 0 and 511 among them from two on.
func groupWith(epoch, seq, images int, seed int64) api.Group {
	chance := rand.New(rand.NewSource(seed))
	g := api.Group{Epoch: epoch, Seq: seq}
	places := chance.Perm(510)
	for i := range images {
		g.Images = append(g.Images, api.Image{Block: places[i] + 1, Data: randomBytes(chance, 4096)})
	}
	if images > 1 {
		g.Images[images-1].Block = 0
		g.Images[0].Block = 511
	}
	return g
}

func put(t *testing.T, g api.Group) [][]byte {
	t.Helper()
	l, e := record.Put(g)
	if e != api.OK {
		t.Fatal(g.Epoch, g.Seq, len(g.Images), e)
	}
	return l
}

func refusePut(t *testing.T, g api.Group, what ...any) {
	t.Helper()
	if l, e := record.Put(g); e != api.ErrGroup || l != nil {
		t.Error(append(what, "put", len(l), e)...)
	}
}

func refuseGet(t *testing.T, l [][]byte, what ...any) {
	t.Helper()
	if g, e := record.Get(l); e != api.ErrGroup || g.Epoch != 0 || g.Seq != 0 || g.Images != nil {
		t.Error(append(what, "got", g.Epoch, g.Seq, len(g.Images), e)...)
	}
}

func checkGet(t *testing.T, l [][]byte, want api.Group, what ...any) {
	t.Helper()
	if g, e := record.Get(l); e != api.OK || !sameGroup(g, want) {
		t.Error(append(what, "got", g.Epoch, g.Seq, len(g.Images), e)...)
	}
}

// judgeGet holds Get to what the chapter's words make of l.
func judgeGet(t *testing.T, l [][]byte, what ...any) {
	t.Helper()
	if want, ok := groupOf(l); ok {
		checkGet(t, l, want, what...)
	} else {
		refuseGet(t, l, what...)
	}
}

func refuseHead(t *testing.T, b []byte, what ...any) {
	t.Helper()
	if epoch, seq, n, ok := record.Head(b); epoch != 0 || seq != 0 || n != 0 || ok {
		t.Error(append(what, "head", epoch, seq, n, ok)...)
	}
}

func checkHead(t *testing.T, b []byte, epoch, seq, n int) {
	t.Helper()
	if x, y, m, ok := record.Head(b); x != epoch || y != seq || m != n || !ok {
		t.Error(epoch, seq, n, "head", x, y, m, ok)
	}
}

// judgeHead holds Head to what the chapter's words make of b.
func judgeHead(t *testing.T, b []byte, what ...any) {
	t.Helper()
	if g, ok := headSays(b); ok {
		checkHead(t, b, g.Epoch, g.Seq, len(g.Images))
	} else {
		refuseHead(t, b, what...)
	}
}

// Example 1, byte by byte.
func TestExampleGroup(t *testing.T) {
	data := bytes.Repeat([]byte{0x61}, 4096)
	g := api.Group{Epoch: 1, Seq: 1, Images: []api.Image{{Block: 40, Data: data}}}
	l := put(t, g)
	if len(l) != 2 || len(l[0]) != 4096 || len(l[1]) != 4096 {
		t.Fatal(len(l))
	}
	stamp := []byte{0, 0, 1, 0, 0, 0, 0, 1}
	begin := append(append(bytes.Clone(stamp), 0, 1), l[0][10:14]...)
	begin = append(append(begin, 0, 0x28), bytes.Repeat([]byte{0x61}, 64)...)
	if !bytes.HasPrefix(l[0], begin) {
		t.Error(l[0][:80])
	}
	rest := append([]byte{0, 0x28}, bytes.Repeat([]byte{0x61}, 64)...)
	rest = append(rest, make([]byte, 4026-66)...)
	if sum := binary.BigEndian.Uint32(l[0][10:]); sum != sumOf(rest) {
		t.Error(sum, sumOf(rest))
	}
	noughts := l[0][len(begin):]
	for at, v := range l[0] {
		inStamp := at%512 < 8
		if inStamp && v != stamp[at%512] || !inStamp && at >= 4096-len(noughts) && v != 0 {
			t.Error("head", at, v)
		}
	}
	for at, v := range l[1] {
		if at%512 < 8 && v != stamp[at%512] || at%512 >= 8 && v != 0x61 {
			t.Error("image", at, v)
		}
	}
	checkHead(t, l[0], 1, 1, 1)
	checkGet(t, l, g)
}

// Example 2.
func TestExampleRefused(t *testing.T) {
	g := api.Group{Epoch: 1, Seq: 1, Images: []api.Image{{Block: 40, Data: bytes.Repeat([]byte{0x61}, 4096)}}}
	l := put(t, g)
	for block := range l {
		for s := range 8 {
			turned := cloneBlocks(l)
			copy(turned[block][512*s:], stampBytes(1, 2))
			refuseGet(t, turned, block, s)
		}
	}
	refuseGet(t, l[:1])
	refuseGet(t, [][]byte{l[1], l[0]})
	refusePut(t, api.Group{Epoch: 1, Seq: 1})
	refusePut(t, groupWith(1, 1, 33, 1))
	refusePut(t, api.Group{Epoch: 1, Seq: 1, Images: []api.Image{g.Images[0], g.Images[0]}})
	if record.Stamped(l[1], 1, 2) {
		t.Error("stamped 1, 2")
	}
	if !record.Stamped(l[1], 1, 1) || !record.Stamped(l[0], 1, 1) {
		t.Error("not stamped 1, 1")
	}
}

// P6.1, P6.3: Put is the blocks of the words, Get of Put the group, Head what it says.
func TestPutAndGet(t *testing.T) {
	check := func(g api.Group) {
		l := put(t, g)
		if !sameBlocks(l, blocksOf(g)) {
			t.Error("blocks", g.Epoch, g.Seq, len(g.Images))
		}
		if len(l) != record.Blocks(len(g.Images)) {
			t.Error(len(l), len(g.Images))
		}
		checkGet(t, l, g, g.Epoch, g.Seq, len(g.Images))
		checkHead(t, l[0], g.Epoch, g.Seq, len(g.Images))
		for i, b := range l {
			if !record.Stamped(b, g.Epoch, g.Seq) {
				t.Error("not stamped", g.Epoch, g.Seq, i)
			}
		}
	}
	for _, epoch := range rightEpochs {
		for _, seq := range rightSeqs {
			for _, images := range []int{1, 2} {
				check(groupWith(epoch, seq, images, int64(images)))
			}
		}
	}
	for images := 1; images <= 32; images++ {
		check(groupWith(1, 1, images, int64(images)))
		check(groupWith(1<<23, 1<<39, images, int64(100+images)))
	}
	for block := range 512 {
		g := groupWith(3, 4, 1, int64(block))
		g.Images[0].Block = block
		check(g)
	}
}

// P6.1: data that is all one byte, and data that looks like blocks of a group itself.
func TestPutOddData(t *testing.T) {
	for _, v := range []byte{0, 1, 0x61, 0x80, 0xff} {
		g := groupWith(2, 3, 2, 4)
		g.Images[0].Data = bytes.Repeat([]byte{v}, 4096)
		g.Images[1].Data = bytes.Repeat([]byte{v}, 4096)
		checkGet(t, put(t, g), g, v)
	}
	inner := put(t, groupWith(5, 6, 1, 7))
	for _, seq := range []int{6, 7} {
		g := api.Group{Epoch: 5, Seq: seq, Images: []api.Image{{Block: 9, Data: inner[0]}, {Block: 8, Data: inner[1]}}}
		l := put(t, g)
		if !sameBlocks(l, blocksOf(g)) {
			t.Error(seq)
		}
		checkGet(t, l, g, seq)
		// An image of a head, stamped anew, is a head of this group's number: it may stand as one.
		checkHead(t, l[1], 5, seq, 1)
		checkGet(t, [][]byte{l[1], l[2]}, mustGroup(t, [][]byte{l[1], l[2]}), seq)
	}
}

func mustGroup(t *testing.T, l [][]byte) api.Group {
	t.Helper()
	g, ok := groupOf(l)
	if !ok {
		t.Fatal("no group")
	}
	return g
}

// P6.1: wrong groups.
func TestPutRefuses(t *testing.T) {
	refusePut(t, api.Group{})
	for _, epoch := range wrongEpochs {
		refusePut(t, groupWith(epoch, 1, 1, 1), "epoch", epoch)
		refusePut(t, groupWith(epoch, 1<<39, 2, 1), "epoch", epoch)
	}
	for _, seq := range wrongSeqs {
		refusePut(t, groupWith(1, seq, 1, 1), "seq", seq)
		refusePut(t, groupWith(1<<23, seq, 2, 1), "seq", seq)
	}
	for _, images := range []int{0, 33, 34, 61, 62, 64, 256, 288} {
		refusePut(t, groupWith(1, 1, images, 1), "images", images)
	}
	many := groupWith(1, 1, 1, 1)
	for len(many.Images) < 1<<16+1 {
		many.Images = append(many.Images, many.Images[0])
	}
	refusePut(t, many, "images", len(many.Images))
	for _, images := range []int{1, 2, 31, 32} {
		for i := range images {
			for _, block := range wrongBlocks {
				g := groupWith(1, 1, images, 2)
				g.Images[i].Block = block
				refusePut(t, g, "block", i, block)
			}
			for _, size := range []int{0, 1, 8, 504, 511, 512, 513, 4088, 4095, 4097, 4608, 8192} {
				g := groupWith(1, 1, images, 2)
				g.Images[i].Data = make([]byte, size, size+8192)
				refusePut(t, g, "data", i, size)
			}
			g := groupWith(1, 1, images, 2)
			g.Images[i].Data = nil
			refusePut(t, g, "no data", i)
		}
	}
}

// P6.1: two images of one block, whichever two, and whatever their data.
func TestPutRefusesTwoOfOneBlock(t *testing.T) {
	whole := groupWith(1, 1, 32, 3)
	for i := range 32 {
		for j := range i {
			g := whole
			g.Images = slices.Clone(whole.Images)
			g.Images[i].Block = g.Images[j].Block
			refusePut(t, g, i, j)
			g.Images[i].Data = g.Images[j].Data
			refusePut(t, g, i, j)
		}
	}
}

// P6.1, P6.2: any one byte turned. Stamps and heads hold it off; a byte of an image is another group's byte.
func TestOneByteTurned(t *testing.T) {
	g := groupWith(3, 1<<38+5, 2, 5)
	l := put(t, g)
	turn := func(block, at int, by byte) {
		turned := slices.Clone(l)
		turned[block] = bytes.Clone(l[block])
		turned[block][at] ^= by
		stamped := record.Stamped(turned[block], g.Epoch, g.Seq)
		if stamped != (at%512 >= 8) {
			t.Error("stamped", block, at, by, stamped)
		}
		if block == 0 {
			refuseHead(t, turned[0], at, by)
		}
		if block == 0 || at%512 < 8 {
			refuseGet(t, turned, block, at, by)
			return
		}
		want := cloneGroup(g)
		want.Images[block-1].Data[at] ^= by
		checkGet(t, turned, want, block, at, by)
	}
	for block := range l {
		for at := range 4096 {
			turn(block, at, 1<<(at%8))
			if at%512 < 16 || at < 160 || at > 4090 {
				turn(block, at, 1)
				turn(block, at, 0x80)
				turn(block, at, 0xff)
			}
		}
	}
}

// P6.1, P6.2: as above with 32 images, in all of the head that says something and a little of each sector behind.
func TestOneByteTurnedOfMany(t *testing.T) {
	for _, images := range []int{1, 31, 32} {
		l := put(t, groupWith(1<<23, 1<<39, images, int64(images)))
		for at := range 4096 {
			if at > 14+images*67 && at%512 > 8 && at%512 < 511 {
				continue
			}
			turned := slices.Clone(l)
			turned[0] = bytes.Clone(l[0])
			turned[0][at] ^= 1 << (at % 8)
			judgeHead(t, turned[0], images, at)
			refuseGet(t, turned, images, at)
		}
		for block := 1; block <= images; block++ {
			for at := range 4096 {
				if at%512 < 8 {
					turned := slices.Clone(l)
					turned[block] = bytes.Clone(l[block])
					turned[block][at] ^= 1 << (block % 8)
					refuseGet(t, turned, images, block, at)
				}
			}
		}
	}
}

// P6.2: how many images stands ahead of the sum, so that turned by one it may be the head of a group with block 0 behind, all noughts hidden.
func TestCountTurned(t *testing.T) {
	g := groupWith(3, 4, 1, 5)
	l := put(t, g)
	for count := range 300 {
		turned := cloneBlocks(l)
		binary.BigEndian.PutUint16(turned[0][8:], uint16(count))
		if count == 1 || count == 2 {
			checkHead(t, turned[0], 3, 4, count)
		} else {
			refuseHead(t, turned[0], count)
		}
		if count != 1 {
			refuseGet(t, turned, count)
		}
		more := append(turned, put(t, groupWith(3, 4, 1, 6))[1])
		if count == 2 {
			want := cloneGroup(g)
			data := bytes.Clone(more[2])
			for s := range 8 {
				clear(data[512*s : 512*s+8])
			}
			want.Images = append(want.Images, api.Image{Block: 0, Data: data})
			checkGet(t, more, want)
		} else {
			refuseGet(t, more, count)
		}
	}
	for _, count := range []int{256, 257, 288, 1 << 8, 1 << 15, 65535} {
		turned := cloneBlocks(l)
		binary.BigEndian.PutUint16(turned[0][8:], uint16(count))
		refuseHead(t, turned[0], count)
		refuseGet(t, turned, count)
	}
}

// P6.1: blocks left out, too many, turned about.
func TestWrongNumberOfBlocks(t *testing.T) {
	refuseGet(t, nil)
	refuseGet(t, [][]byte{})
	for _, images := range []int{1, 2, 3, 31, 32} {
		g := groupWith(7, 8, images, int64(images))
		l := put(t, g)
		other := put(t, groupWith(7, 8, 1, 99))[1]
		for i := range l {
			refuseGet(t, slices.Delete(slices.Clone(l), i, i+1), "left out", images, i)
			refuseGet(t, l[:i], "cut", images, i)
			for k, more := range [][]byte{nil, {}, make([]byte, 4096), l[0], l[i], other} {
				refuseGet(t, slices.Insert(slices.Clone(l), i, more), "too many", images, i, k)
				refuseGet(t, slices.Insert(slices.Clone(l), i+1, more), "too many", images, i, k)
			}
			for j := range i {
				turned := slices.Clone(l)
				turned[i], turned[j] = turned[j], turned[i]
				if j == 0 {
					refuseGet(t, turned, "turned about", images, i, j)
				} else {
					judgeGet(t, turned, "turned about", images, i, j)
				}
			}
		}
		refuseGet(t, append(slices.Clone(l), l...), "twice", images)
	}
}

// P6.1: two images' blocks turned about are blocks of a group whose data is turned about, but for what is hidden.
func TestImagesTurnedAbout(t *testing.T) {
	g := groupWith(7, 8, 2, 9)
	l := put(t, g)
	want := cloneGroup(g)
	for at := range 4096 {
		if at%512 >= 8 {
			a, b := want.Images[0].Data, want.Images[1].Data
			a[at], b[at] = b[at], a[at]
		}
	}
	checkGet(t, [][]byte{l[0], l[2], l[1]}, want)
	// One list in two places: each image has its own data.
	same, e := record.Get([][]byte{l[0], l[1], l[1]})
	if e != api.OK || !bytes.Equal(same.Images[0].Data, g.Images[0].Data) || bytes.Equal(same.Images[1].Data, same.Images[0].Data) {
		t.Error(e)
	}
	judgeGet(t, [][]byte{l[0], l[1], l[1]})
	judgeGet(t, [][]byte{l[0], l[0], l[0]})
}

// P6.1, P6.2: blocks of another length, whatever stands in their spare room.
func TestWrongLengths(t *testing.T) {
	for _, images := range []int{1, 2, 32} {
		l := put(t, groupWith(7, 8, images, 3))
		for i := range l {
			long := append(bytes.Clone(l[i]), l[i]...)
			for _, size := range []int{0, 1, 7, 8, 9, 14, 80, 511, 512, 1024, 3584, 4088, 4095, 4097, 4104, 4608, 8192} {
				turned := slices.Clone(l)
				turned[i] = long[:size]
				refuseGet(t, turned, images, i, size)
				refuseHead(t, turned[i], images, i, size)
				if record.Stamped(turned[i], 7, 8) {
					t.Error("stamped", images, i, size)
				}
			}
			turned := slices.Clone(l)
			turned[i] = nil
			refuseGet(t, turned, images, i, "nil")
			turned[i] = append(bytes.Clone(l[i]), 0)
			refuseGet(t, turned, images, i, "nought behind")
			refuseHead(t, turned[i], images, i, "nought behind")
		}
	}
	refuseHead(t, nil)
	refuseHead(t, []byte{})
	refuseGet(t, [][]byte{nil})
	refuseGet(t, [][]byte{{}})
	refuseGet(t, [][]byte{nil, nil})
}

// P6.2: heads that are wrong in nothing but the numbers that they say; their sums are right.
func TestHeadsOfWrongGroups(t *testing.T) {
	refuse := func(head []byte, epoch, seq, images int, what ...any) {
		t.Helper()
		refuseHead(t, head, what...)
		l := [][]byte{head}
		for range images {
			l = append(l, bytes.Repeat(append(stampBytes(epoch, seq), make([]byte, 504)...), 8))
		}
		refuseGet(t, l, what...)
	}
	g := groupWith(1, 1, 32, 1)
	one := restOf(g.Images[:1])
	for _, epoch := range []int{0, 1<<23 + 1, 1<<23 + 2, 1<<24 - 1} {
		for _, seq := range []int{1, 1 << 39} {
			refuse(headOf(epoch, seq, 1, one), epoch, seq, 1, "epoch", epoch)
		}
	}
	for _, seq := range []int{0, 1<<39 + 1, 1<<39 + 2, 1<<40 - 1} {
		for _, epoch := range []int{1, 1 << 23} {
			refuse(headOf(epoch, seq, 1, one), epoch, seq, 1, "seq", seq)
		}
	}
	refuse(headOf(1, 1, 0, nil), 1, 1, 0, "none")
	refuse(headOf(1, 1, 0, one), 1, 1, 0, "none")
	refuse(headOf(1, 1, 0, one), 1, 1, 1, "none")
	for _, images := range []int{33, 34, 60, 61} {
		many := groupWith(1, 1, images, 1)
		refuse(headOf(1, 1, images, restOf(many.Images)), 1, 1, images, "images", images)
	}
	for _, count := range []int{62, 256 + 1, 256 + 32, 65535} {
		refuse(headOf(1, 1, count, restOf(g.Images)), 1, 1, count, "images", count)
	}
	for _, images := range []int{1, 2, 31, 32} {
		for i := range images {
			for _, block := range []int{512, 513, 552, 1024, 1 << 15, 65535} {
				rest := restOf(g.Images[:images])
				binary.BigEndian.PutUint16(rest[66*i:], uint16(block))
				refuse(headOf(1, 1, images, rest), 1, 1, images, "block", i, block)
			}
			for j := range i {
				rest := restOf(g.Images[:images])
				copy(rest[66*i:66*i+2], rest[66*j:])
				refuse(headOf(1, 1, images, rest), 1, 1, images, "alike", i, j)
			}
		}
		rest := restOf(g.Images[:images])
		for _, at := range []int{len(rest), len(rest) + 1, len(rest) + 66, 4000, 4025} {
			more := append(bytes.Clone(rest), make([]byte, 4026-len(rest))...)
			more[at] = 1
			refuse(headOf(1, 1, images, more), 1, 1, images, "nought", at)
		}
		refuse(headOf(1, 1, images-1, rest), 1, 1, images, "one less")
		refuse(headOf(1, 1, images-1, rest), 1, 1, images-1, "one less")
	}
}

// P6.1, P6.2: bytes hidden anew under a right sum are another group's; the sum of anything else but all behind it is none.
func TestSum(t *testing.T) {
	g := groupWith(1, 1, 2, 1)
	l := put(t, g)
	rest := restOf(g.Images)
	for _, at := range []int{2, 9, 10, 65, 68, 131} {
		other := bytes.Clone(rest)
		other[at] ^= 0x55
		head := headOf(1, 1, 2, other)
		checkHead(t, head, 1, 1, 2)
		want := cloneGroup(g)
		i, hidden := at/66, at%66-2
		want.Images[i].Data[hidden/8*512+hidden%8] ^= 0x55
		checkGet(t, [][]byte{head, l[1], l[2]}, want, at)
		binary.BigEndian.PutUint32(head[10:], sumOf(rest))
		refuseHead(t, head, at)
	}
	text := append(bytes.Clone(rest), make([]byte, 4026-len(rest))...)
	whole := append([]byte{0, 2}, text...)
	for i, sum := range []uint32{0, math.MaxUint32, ^sumOf(text), sumOf(rest), sumOf(whole), sumOf(text[:4025]), sumOf(l[0]), sumOf(l[0][14:])} {
		head := bytes.Clone(l[0])
		binary.BigEndian.PutUint32(head[10:], sum)
		refuseHead(t, head, "sum", i)
		refuseGet(t, [][]byte{head, l[1], l[2]}, "sum", i)
	}
	head := bytes.Clone(l[0])
	binary.LittleEndian.PutUint32(head[10:], sumOf(text))
	refuseHead(t, head, "sum turned about")
}

// mixed is a's blocks with the sectors of b's for which pick says so.
func mixed(a, b [][]byte, pick func(sector int) bool) [][]byte {
	out := cloneBlocks(a)
	for s := range 8 * len(a) {
		if pick(s) {
			copy(out[s/8][s%8*512:s%8*512+512], b[s/8][s%8*512:])
		}
	}
	return out
}

// P6.3: a mix of two groups' sectors is taken only if all are of one.
func TestMixedSectors(t *testing.T) {
	chance := rand.New(rand.NewSource(6))
	for _, images := range []int{1, 2, 32} {
		g := groupWith(4, 1<<20, images, 1)
		others := []api.Group{groupWith(4, 1<<20+1, images, 2), groupWith(5, 1<<20, images, 3), groupWith(5, 1<<20+1, images, 4)}
		for _, numbers := range [][2]int{{4, 1<<20 - 1}, {4, 1}, {4, 1 << 39}, {1, 1 << 20}, {1 << 23, 1 << 20}, {3, 1 << 20}} {
			same := g
			same.Epoch, same.Seq = numbers[0], numbers[1]
			others = append(others, same)
		}
		l := put(t, g)
		for i, other := range others {
			m := put(t, other)
			for s := range 8 * len(l) {
				refuseGet(t, mixed(l, m, func(at int) bool { return at == s }), "one", images, i, s)
				refuseGet(t, mixed(m, l, func(at int) bool { return at == s }), "all but one", images, i, s)
				if s > 0 {
					refuseGet(t, mixed(l, m, func(at int) bool { return at >= s }), "a beginning", images, i, s)
				}
				if images > 2 && s > 24 {
					break
				}
			}
			for range 20 {
				mask := randomBytes(chance, 8*len(l))
				mask[0], mask[chance.Intn(len(mask)-1)+1] = 0, 1
				refuseGet(t, mixed(l, m, func(at int) bool { return mask[at]&1 == 1 }), "mix", images, i)
			}
			checkGet(t, mixed(l, m, func(int) bool { return true }), other, images, i)
		}
	}
}

// P6.2, P6.3: a sector of what is no group's, whatever it is made of.
func TestStrangeSectors(t *testing.T) {
	chance := rand.New(rand.NewSource(7))
	l := put(t, groupWith(2, 3, 2, 1))
	strange := [][]byte{make([]byte, 512), bytes.Repeat([]byte{0xff}, 512), randomBytes(chance, 512)}
	for _, mark := range [][2]int{{3, 2}, {2, 2}, {2, 4}, {1, 3}, {0, 3}, {2, 0}} {
		strange = append(strange, append(stampBytes(mark[0], mark[1]), l[1][8:512]...))
	}
	strange = append(strange, append(bytes.Clone(l[1][1:512]), 0), append([]byte{0}, l[1][:511]...))
	for i, sector := range strange {
		for s := range 8 * len(l) {
			turned := cloneBlocks(l)
			copy(turned[s/8][s%8*512:], sector)
			refuseGet(t, turned, i, s)
			if s < 8 {
				refuseHead(t, turned[0], i, s)
			}
			if record.Stamped(turned[s/8], 2, 3) {
				t.Error("stamped", i, s)
			}
		}
	}
}

// P6.2: Stamped asks for right numbers, even of bytes that bear what wrong ones would come to.
func TestStampedNumbers(t *testing.T) {
	bearing := func(epoch, seq int) []byte {
		return bytes.Repeat(append(stampBytes(epoch, seq), make([]byte, 504)...), 8)
	}
	for _, epoch := range rightEpochs {
		for _, seq := range rightSeqs {
			if !record.Stamped(bearing(epoch, seq), epoch, seq) {
				t.Error(epoch, seq)
			}
			for _, other := range rightSeqs {
				if record.Stamped(bearing(epoch, seq), epoch, other) != (seq == other) {
					t.Error(epoch, seq, other)
				}
			}
			for _, other := range rightEpochs {
				if record.Stamped(bearing(epoch, seq), other, seq) != (epoch == other) {
					t.Error(epoch, seq, other)
				}
			}
		}
	}
	refuse := func(epoch, seq int) {
		t.Helper()
		for _, b := range [][]byte{bearing(epoch, seq), bearing(1, 1), bearing(1<<23, 1<<39), make([]byte, 4096), bytes.Repeat([]byte{0xff}, 4096), nil} {
			if record.Stamped(b, epoch, seq) {
				t.Error(epoch, seq)
			}
		}
	}
	for _, epoch := range wrongEpochs {
		refuse(epoch, 1)
		refuse(epoch, 1<<39)
		for _, seq := range wrongSeqs {
			refuse(epoch, seq)
		}
	}
	for _, seq := range wrongSeqs {
		refuse(1, seq)
		refuse(1<<23, seq)
	}
}

// P6.2.
func TestBlocks(t *testing.T) {
	for images := 1; images <= 32; images++ {
		if n := record.Blocks(images); n != images+1 {
			t.Error(images, n)
		}
	}
	for _, images := range wrongCounts {
		if n := record.Blocks(images); n != 0 {
			t.Error(images, n)
		}
	}
}

// R1: any bytes are refused or told, and nothing panics.
func TestAnyBytes(t *testing.T) {
	chance := rand.New(rand.NewSource(8))
	l := put(t, groupWith(2, 3, 3, 1))
	for range 300 {
		var blocks [][]byte
		for range chance.Intn(5) {
			b := bytes.Clone(l[chance.Intn(4)])
			for range chance.Intn(3) {
				b[chance.Intn(20)*chance.Intn(200)] = byte(chance.Intn(5))
			}
			switch chance.Intn(12) {
			case 0:
				b = randomBytes(chance, chance.Intn(5000))
			case 1:
				b = b[:chance.Intn(4096)]
			}
			blocks = append(blocks, b)
			judgeHead(t, b)
		}
		judgeGet(t, blocks)
	}
	for range 200 {
		b := randomBytes(chance, 4096)
		refuseHead(t, b)
		refuseGet(t, [][]byte{b, b})
	}
}

// withSpare is a copy of b with room behind it.
func withSpare(b []byte) []byte {
	room := append(bytes.Clone(b), bytes.Repeat([]byte{0xee}, 600)...)
	return room[:len(b)]
}

func fill(b []byte, v byte) {
	for i := range b[:cap(b)] {
		b[:cap(b)][i] = v
	}
}

// R3: Put changes and keeps nothing of what it is given, and its blocks share no memory, spare room too.
func TestPutSharesNothing(t *testing.T) {
	for _, images := range []int{1, 2, 32} {
		g := groupWith(2, 3, images, 1)
		given := cloneGroup(g)
		for i := range given.Images {
			given.Images[i].Data = withSpare(given.Images[i].Data)
		}
		spare := api.Image{Block: -7}
		given.Images = append(given.Images, spare)[:images]
		first := put(t, given)
		second := put(t, given)
		for i := range first {
			fill(first[i], byte(i))
		}
		for i, b := range first {
			if bytes.ContainsFunc(b, func(r rune) bool { return r != rune(i) }) {
				t.Error("blocks share", i)
			}
		}
		for i := range first[:cap(first)] {
			first[:cap(first)][i] = nil
		}
		if !sameGroup(given, g) || !sameBlocks(second, blocksOf(g)) {
			t.Error("shared", images)
		}
		for i := range given.Images {
			room := given.Images[i].Data[:cap(given.Images[i].Data)]
			for _, v := range room[4096:4696] {
				if v != 0xee {
					t.Fatal("spare room changed", i)
				}
			}
			fill(given.Images[i].Data, 0x33)
		}
		if last := given.Images[:images+1][images]; last.Block != -7 || last.Data != nil {
			t.Error("spare room changed")
		}
		if !sameBlocks(second, blocksOf(g)) {
			t.Error("kept", images)
		}
	}
}

// R3: Get, Head and Stamped change and keep nothing of what they are given, and the data that Get tells shares no memory.
func TestGetSharesNothing(t *testing.T) {
	for _, images := range []int{1, 2, 32} {
		g := groupWith(2, 3, images, 1)
		right := blocksOf(g)
		var given [][]byte
		for _, b := range right {
			given = append(given, withSpare(b))
		}
		first, e := record.Get(given)
		second, f := record.Get(given)
		if e != api.OK || f != api.OK {
			t.Fatal(e, f)
		}
		checkHead(t, given[0], 2, 3, images)
		if !record.Stamped(given[1], 2, 3) {
			t.Error("not stamped")
		}
		for i := range first.Images {
			fill(first.Images[i].Data, byte(i))
		}
		for i, image := range first.Images {
			if bytes.ContainsFunc(image.Data, func(r rune) bool { return r != rune(i) }) {
				t.Error("data share", i)
			}
		}
		for i := range first.Images[:cap(first.Images)] {
			first.Images[:cap(first.Images)][i] = api.Image{Block: 5}
		}
		if !sameBlocks(given, right) || !sameGroup(second, g) {
			t.Error("shared", images)
		}
		for i := range given {
			for _, v := range given[i][:cap(given[i])][4096:4696] {
				if v != 0xee {
					t.Fatal("spare room changed", i)
				}
			}
			fill(given[i], 0x33)
		}
		if !sameGroup(second, g) {
			t.Error("kept", images)
		}
	}
}

// R2, R3: what is refused is not changed either.
func TestRefusedIsNotChanged(t *testing.T) {
	l := blocksOf(groupWith(2, 3, 3, 1))
	l[3][512] ^= 1
	given := cloneBlocks(l)
	refuseGet(t, given)
	refuseHead(t, given[1])
	if !sameBlocks(given, l) {
		t.Error("changed")
	}
	g := groupWith(2, 3, 3, 1)
	g.Images[2].Block = 512
	same := cloneGroup(g)
	refusePut(t, same)
	if !sameGroup(same, g) {
		t.Error("changed")
	}
}

// R4: what was put and got before is not to be seen in an answer.
func TestAnswersHangOnArgumentsAlone(t *testing.T) {
	a, b := groupWith(2, 3, 32, 1), groupWith(2, 4, 1, 2)
	first := put(t, a)
	for range 3 {
		if !sameBlocks(put(t, b), blocksOf(b)) || !sameBlocks(put(t, a), first) {
			t.Error("another answer")
		}
		refusePut(t, api.Group{})
		refuseGet(t, first[1:])
		checkGet(t, first, a)
		checkGet(t, put(t, b), b)
	}
}
