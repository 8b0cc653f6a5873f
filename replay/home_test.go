package replay_test

import (
	"bytes"
	"math"
	"math/rand"
	"slices"
	"testing"

	"ledgerstone/api"
	"ledgerstone/replay"
)

// lastOnes is what Home tells by the chapter's words: block by block, the image that no later one is of the same block as.
func lastOnes(l api.Layout, groups []api.Group) []api.Image {
	var all, out []api.Image
	for _, g := range groups {
		all = append(all, g.Images...)
	}
	for block := range l.Blocks {
		for _, i := range slices.Backward(all) {
			if i.Block == block {
				out = append(out, i)
				break
			}
		}
	}
	return out
}

// tells is that Home answers these images, with as many bytes each.
func tells(t *testing.T, l api.Layout, groups []api.Group, want []api.Image) {
	t.Helper()
	got, err := replay.Home(l, groups)
	if err != api.OK || !sameImages(got, want) {
		t.Fatal(l.Blocks, "told", blocksOf(got), err, "wanted", blocksOf(want))
	}
}

// refuses is that Home answers that error, and nothing beside it.
func refuses(t *testing.T, l api.Layout, groups []api.Group, want api.Errno) {
	t.Helper()
	if got, err := replay.Home(l, groups); got != nil || err != want {
		t.Fatal(l, "told", blocksOf(got), err, "wanted", want)
	}
}

// The chapter's examples.
func TestHomeExamples(t *testing.T) {
	l := layoutOf(t, 64)
	a, b, c := filled('A'), filled('B'), filled('C')
	groups := []api.Group{group(image(40, a), image(30, b)), group(image(40, c))}
	tells(t, l, groups, []api.Image{image(30, b), image(40, c)})
	for _, n := range []int{17, 64} {
		refuses(t, l, append(groups, group(image(n, a))), api.ErrImage)
		refuses(t, l, []api.Group{group(image(n, a))}, api.ErrImage)
	}
}

// fields are the numbers of a layout.
func fields(l *api.Layout) []*int {
	return []*int{&l.Blocks, &l.Log, &l.LogBlocks, &l.Bits, &l.Inodes, &l.InodeBlocks, &l.Data}
}

// P10.2: a layout that has one number turned, and one of another size but for its Blocks; ErrArg comes ahead of ErrImage.
func TestHomeOfTurnedLayouts(t *testing.T) {
	for _, blocks := range sizes {
		right := layoutOf(t, blocks)
		asked := [][]api.Group{nil, {{}}, {group(image(right.Data, filled(1)))}, {group(image(-1, nil))}, {group(image(blocks, filled(1)))}, {group(image(right.Bits-1, filled(1)))}}
		wrong := []api.Layout{{}, {Blocks: blocks}}
		for i := range fields(&right) {
			for _, by := range []int{math.MinInt, -1 << 32, -blocks, -16, -2, -1, 1, 2, 16, blocks, 1 << 32, math.MaxInt} {
				turned := right
				*fields(&turned)[i] += by
				wrong = append(wrong, turned)
			}
		}
		for _, other := range sizes {
			if other != blocks {
				l := layoutOf(t, other)
				l.Blocks = blocks
				wrong = append(wrong, l)
			}
		}
		for _, l := range wrong {
			if l == layoutOf(t, min(max(l.Blocks, 64), 512)) { // sizes that are near each other are laid out alike
				tells(t, l, nil, nil)
				continue
			}
			for _, groups := range asked {
				refuses(t, l, groups, api.ErrArg)
			}
		}
		tells(t, right, asked[2], asked[2][0].Images)
	}
}

// P10.2: what would be the layout of a number of blocks that may not be.
func TestHomeOfLayoutsOfNoSize(t *testing.T) {
	for _, blocks := range []int{math.MinInt, -64, -1, 0, 1, 2, 16, 48, 63, 513, 514, 1024, 1 << 32, 1<<32 + 64} {
		l := api.Layout{Blocks: blocks, Log: 2, LogBlocks: max(blocks/8, 16), InodeBlocks: blocks / 16}
		l.Bits = 2 + l.LogBlocks
		l.Inodes = l.Bits + 1
		l.Data = l.Inodes + l.InodeBlocks
		for _, n := range []int{-1, 0, 18, l.Bits, l.Data, blocks - 1, blocks} {
			refuses(t, l, []api.Group{group(image(n, filled(1)))}, api.ErrArg)
		}
		refuses(t, l, nil, api.ErrArg)
	}
}

// P10.2: no groups, and groups without images.
func TestHomeOfNothing(t *testing.T) {
	for blocks := 64; blocks <= 512; blocks++ {
		l := layoutOf(t, blocks)
		for _, groups := range [][]api.Group{nil, {}, {{}}, {{Epoch: 1, Seq: 1}, {Images: []api.Image{}}, {Epoch: -1, Seq: math.MinInt}}} {
			tells(t, l, groups, nil)
		}
		some := []api.Image{image(blocks-1, filled(1))}
		tells(t, l, []api.Group{{}, group(some...), {}}, some)
	}
}

// P10.2: on each size the least and the greatest block that may be, and those next to them.
func TestHomeAtTheEdges(t *testing.T) {
	for blocks := 64; blocks <= 512; blocks++ {
		l := layoutOf(t, blocks)
		for _, n := range []int{l.Bits, l.Bits + 1, l.Inodes, l.Data - 1, l.Data, blocks - 2, blocks - 1} {
			one := []api.Image{image(n, []byte{byte(n)})}
			tells(t, l, []api.Group{group(one...)}, one)
		}
		for _, n := range []int{math.MinInt, math.MinInt + l.Data, -1 << 32, -blocks, -l.Bits, -1, 0, 1, 2, l.Log, l.Bits - 2, l.Bits - 1, blocks, blocks + 1, blocks + l.Data, 1 << 16, 1<<32 + l.Data, math.MaxInt} {
			refuses(t, l, []api.Group{group(image(n, filled(1)))}, api.ErrImage)
		}
		all := []api.Image{}
		for n := l.Bits; n < blocks; n++ {
			all = append(all, image(n, []byte{byte(n), byte(n >> 8)}))
		}
		tells(t, l, []api.Group{group(all...)}, all)
	}
}

// P10.2: one image that may not be, anywhere among those that may, though the same block comes again behind it.
func TestHomeWithOneWrongImage(t *testing.T) {
	for _, blocks := range sizes {
		l := layoutOf(t, blocks)
		for _, wrong := range []int{-1, 0, l.Bits - 1, blocks, math.MaxInt} {
			for k := range 3 {
				for at := range 4 {
					groups := make([]api.Group, 3)
					for i := range groups {
						groups[i] = group(image(l.Bits, filled(1)), image(l.Data, nil), image(blocks-1, filled(2)))
					}
					groups[k].Images = slices.Insert(groups[k].Images, at, image(wrong, filled(3)))
					refuses(t, l, groups, api.ErrImage)
				}
			}
		}
	}
}

// P10.2: the same block in one group and in several: in each order that three blocks, one of them several times, may have, cut into groups anywhere.
func TestHomeInAnyOrder(t *testing.T) {
	l := layoutOf(t, 64)
	blocks := []int{18, 30, 63}
	for order := range 81 {
		var images []api.Image
		for i, rest := 0, order; i < 4; i, rest = i+1, rest/3 {
			images = append(images, image(blocks[rest%3], []byte{byte(i + 1)}))
		}
		for cuts := range 8 {
			groups := []api.Group{{}}
			for i, one := range images {
				if i > 0 && cuts>>(i-1)&1 == 1 {
					groups = append(groups, api.Group{})
				}
				last := &groups[len(groups)-1]
				last.Images = append(last.Images, one)
			}
			tells(t, l, groups, lastOnes(l, groups))
		}
	}
}

// P10.2: groups are taken in the order in which they stand, whatever their numbers are, and however many images they have.
func TestHomeAsksNoNumbers(t *testing.T) {
	l := layoutOf(t, 512)
	for _, epochs := range [][2]int{{1, 1}, {2, 1}, {0, -1}, {math.MaxInt, math.MinInt}} {
		for _, seqs := range [][2]int{{1, 2}, {2, 1}, {0, 0}, {-1, 1 << 40}, {math.MaxInt, math.MinInt}} {
			groups := []api.Group{
				{Epoch: epochs[0], Seq: seqs[0], Images: []api.Image{image(100, filled(1)), image(300, filled(2))}},
				{Epoch: epochs[1], Seq: seqs[1], Images: []api.Image{image(300, filled(3)), image(200, filled(4))}},
			}
			tells(t, l, groups, []api.Image{image(100, filled(1)), image(200, filled(4)), image(300, filled(3))})
		}
	}
	var many []api.Image
	for i := range 2000 {
		many = append(many, image(l.Bits+i*7%(512-l.Bits), []byte{byte(i), byte(i >> 8)}))
	}
	groups := []api.Group{group(many...)}
	tells(t, l, groups, lastOnes(l, groups))
}

// P10.2: Data is told as it is, of any length; of one block the last one's, be it shorter, longer or empty.
func TestHomeOfDataOfAnyLength(t *testing.T) {
	l := layoutOf(t, 64)
	lengths := []int{0, 1, 2, 63, 64, 511, 512, 4095, 4096, 4097, 8192, 100000}
	for _, first := range lengths {
		for _, second := range lengths {
			a, b := mixed(first, 25)[:first], mixed(second+1, 25)[:second]
			tells(t, l, []api.Group{group(image(30, a), image(31, b))}, []api.Image{image(30, a), image(31, b)})
			tells(t, l, []api.Group{group(image(30, a), image(30, b))}, []api.Image{image(30, b)})
			tells(t, l, []api.Group{group(image(30, a)), group(image(30, b))}, []api.Image{image(30, b)})
		}
		tells(t, l, []api.Group{group(image(30, mixed(1, 25)[:first])), group(image(30, nil))}, []api.Image{image(30, nil)})
	}
}

// P10.2: groups by chance.
func TestHomeByChance(t *testing.T) {
	chance := rand.New(rand.NewSource(2))
	refused := 0
	for range 3000 {
		blocks := sizes[chance.Intn(len(sizes))]
		l := layoutOf(t, blocks)
		least, most := l.Bits, blocks-l.Bits
		if chance.Intn(4) == 0 {
			least, most = l.Bits-1, blocks-l.Bits+2
		}
		if chance.Intn(2) == 0 {
			most = min(most, 6)
		}
		wrong := false
		groups := make([]api.Group, chance.Intn(6))
		for k := range groups {
			for range chance.Intn(33) {
				n := least + chance.Intn(most)
				wrong = wrong || n < l.Bits || n >= blocks
				groups[k].Images = append(groups[k].Images, image(n, mixed(chance.Intn(99), 1)[:chance.Intn(9)]))
			}
		}
		if wrong {
			refused++
			refuses(t, l, groups, api.ErrImage)
		} else {
			tells(t, l, groups, lastOnes(l, groups))
		}
	}
	if refused < 100 {
		t.Fatal("too few were refused", refused)
	}
}

// P10.4: the groups of what Home told, and these groups twice over, are the same again.
func TestHomeAgain(t *testing.T) {
	l := layoutOf(t, 64)
	groups := []api.Group{group(image(40, filled(1)), image(30, filled(2))), group(image(40, filled(3)), image(18, filled(4)))}
	want := []api.Image{image(18, filled(4)), image(30, filled(2)), image(40, filled(3))}
	tells(t, l, groups, want)
	tells(t, l, []api.Group{group(want...)}, want)
	tells(t, l, append(slices.Clone(groups), groups...), want)
	tells(t, l, append([]api.Group{groups[1]}, groups...), want)
}

// shared is groups whose lists lie in one room, one behind the other, and the whole of that room.
func shared() ([]api.Group, []byte, []api.Image) {
	room := mixed(7, 6)
	part := func(n, length int) []byte { return room[n*4096:][:length] }
	images := []api.Image{
		image(40, part(0, 4096)), image(30, part(1, 100)), image(31, part(1, 100)), image(40, part(2, 4096)),
		image(50, part(3, 0)), image(51, part(3, 4096)), image(52, part(4, 4096)), image(60, part(0, 4096)), image(61, part(5, 10)),
	}
	groups := []api.Group{group(images[:3]...), group(images[3:7]...), group(images[7:8]...)}
	return groups, room, images
}

// R3: what is handed in stays, its spare room too, when Home is called, when it errs, and when who has the answer fills all its room.
func TestHomeLeavesItsArguments(t *testing.T) {
	l := layoutOf(t, 64)
	groups, room, images := shared()
	wasGroups, wasRoom, wasImages := copyGroups(groups), bytes.Clone(room), copyImages(images)
	stays := func(what string) {
		t.Helper()
		if !sameGroups(groups, wasGroups) || !bytes.Equal(room, wasRoom) || !sameImages(images, wasImages) {
			t.Fatal("changed", what)
		}
	}
	got, err := replay.Home(l, groups)
	if err != api.OK {
		t.Fatal(err)
	}
	stays("by the call")
	replay.Home(api.Layout{}, groups)
	replay.Home(l, append(slices.Clone(groups), group(image(1, nil))))
	stays("by an error")
	for i := range got {
		data := got[i].Data
		clear(data[:cap(data)])
	}
	stays("by the answer's bytes")
	clear(got[:cap(got)])
	stays("by the answer")
	tells(t, l, groups, lastOnes(l, wasGroups))
}

// R3: nothing is kept: what was told stays when what was handed in is changed.
func TestHomeKeepsNothing(t *testing.T) {
	l := layoutOf(t, 64)
	groups, room, images := shared()
	want := copyImages(lastOnes(l, groups))
	got, err := replay.Home(l, groups)
	if err != api.OK {
		t.Fatal(err)
	}
	clear(room)
	clear(images)
	clear(groups)
	if !sameImages(got, want) {
		t.Fatal("what was told is changed")
	}
}

// R3: no two lists of answers share memory, spare room too, though the same bytes were handed in for several blocks.
func TestHomeAnswersApart(t *testing.T) {
	l := layoutOf(t, 64)
	groups, _, _ := shared()
	first, _ := replay.Home(l, groups)
	second, _ := replay.Home(l, groups)
	want := copyImages(first)
	for i := range first {
		data := first[i].Data[:cap(first[i].Data)]
		for n := range data {
			data[n] ^= 0xff
		}
		for n := range want[i].Data {
			want[i].Data[n] ^= 0xff
		}
		if !sameImages(first, want) {
			t.Fatal("bytes are shared", i)
		}
	}
	clear(first[:cap(first)])
	if !sameImages(second, lastOnes(l, groups)) {
		t.Fatal("answers share memory")
	}
}
