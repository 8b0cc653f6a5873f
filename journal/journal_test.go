package journal_test

import (
	"bytes"
	"math"
	"math/rand"
	"slices"
	"testing"

	"ledgerstone/api"
	"ledgerstone/disk"
	"ledgerstone/journal"
	"ledgerstone/layout"
	"ledgerstone/record"
)

// Numbers out of bounds; some come into them where a number is cut or a sum wraps round.
var (
	wrongEpochs = []int{math.MinInt, math.MinInt + 1, -1 << 32, -1 << 23, -2, -1, 0, 1<<23 + 1, 1<<23 + 2, 1 << 24, 1<<32 + 1, math.MaxInt - 1, math.MaxInt}
	wrongSeqs   = []int{math.MinInt, math.MinInt + 1, -1 << 40, -1 << 39, -2, -1, 0, 1<<39 + 1, 1<<39 + 2, 1 << 40, 1<<40 + 1, 1<<62 + 1, math.MaxInt - 1, math.MaxInt}
	wrongCounts = []int{math.MinInt, math.MinInt + 1, -1 << 32, -33, -32, -2, -1, 0, 33, 34, 64, 256, 1 << 16, 1<<16 + 1, 1<<32 + 1, 1 << 62, math.MaxInt - 1, math.MaxInt}
)

// sizes of disks, and how many places their rings have.
var sizes = []struct{ blocks, places int }{{64, 16}, {65, 16}, {127, 16}, {128, 16}, {135, 16}, {136, 17}, {255, 31}, {256, 32}, {263, 32}, {264, 33}, {272, 34}, {511, 63}, {512, 64}}

// The chapter's examples.
func TestExamples(t *testing.T) {
	d, l := newDisk(t, 64)
	j, err := journal.Open(d, l, 1, 1, 14)
	if err != api.OK || j.Ring() != (api.Ring{Size: 16, Tail: 14}) {
		t.Fatal(err, j.Ring())
	}
	if n, err := j.Append(some(1), false); n != 1 || err != api.OK || !slices.Equal(d.Pending(), []int{16, 17}) {
		t.Fatal(n, err, d.Pending())
	}
	if n, err := j.Append(some(2), false); n != 2 || err != api.OK || !slices.Equal(d.Pending(), []int{16, 17, 2, 3, 4}) {
		t.Fatal(n, err, d.Pending())
	}
	if at, n := j.Tail(); at != 14 || n != 1 || !slices.Equal(j.Groups(), []int{1, 2}) {
		t.Fatal(at, n, j.Groups())
	}
	if err := j.Flush(); err != api.OK || j.Synced() != 2 || len(d.Pending()) != 0 {
		t.Fatal(err, j.Synced())
	}
	if err := j.Release(1); err != api.OK {
		t.Fatal(err)
	}
	if at, n := j.Tail(); at != 0 || n != 2 || j.Ring() != (api.Ring{Size: 16, Used: 3}) {
		t.Fatal(at, n, j.Ring())
	}
	if n, err := j.Append(some(16), false); n != 0 || err != api.ErrLogFull {
		t.Fatal(n, err)
	}
	if n, err := j.Append(some(13), false); n != 0 || err != api.ErrFull {
		t.Fatal(n, err)
	}
	if err := j.Reserve(12); err != api.OK || j.Ring() != (api.Ring{Size: 16, Used: 3, Held: 13}) {
		t.Fatal(err, j.Ring())
	}
	if n, err := j.Append(some(1), false); n != 0 || err != api.ErrFull {
		t.Fatal(n, err)
	}
}

// P8.1: of every disk that has a layout, with each number at its edges and every tail.
func TestOpen(t *testing.T) {
	for blocks := 64; blocks <= 512; blocks++ {
		d, l := newDisk(t, blocks)
		for _, epoch := range []int{1, 2, 1<<23 - 1, 1 << 23} {
			for _, seq := range []int{1, 2, 1<<39 - 1, 1 << 39} {
				for _, tail := range []int{0, 1, l.LogBlocks / 2, l.LogBlocks - 2, l.LogBlocks - 1} {
					j, err := journal.Open(d, l, epoch, seq, tail)
					if err != api.OK || j == nil {
						t.Fatal(blocks, epoch, seq, tail, err)
					}
					at, first := j.Tail()
					if j.Next() != seq || j.Synced() != seq-1 || at != tail || first != seq || len(j.Groups()) != 0 || j.Broken() || j.Ring() != (api.Ring{Size: max(16, blocks/8), Tail: tail}) {
						t.Fatal(blocks, epoch, seq, tail, j.Next(), j.Synced(), at, first, j.Groups(), j.Ring())
					}
				}
			}
		}
		if d.Writes() != 0 || len(d.Pending()) != 0 {
			t.Fatal(blocks, d.Writes())
		}
	}
}

// P8.1: each number out of bounds, alone.
func TestOpenRefusesNumbers(t *testing.T) {
	for _, s := range sizes {
		d, l := newDisk(t, s.blocks)
		refused := func(epoch, seq, tail int) {
			t.Helper()
			if j, err := journal.Open(d, l, epoch, seq, tail); j != nil || err != api.ErrArg {
				t.Fatal(s.blocks, epoch, seq, tail, err)
			}
		}
		for _, epoch := range wrongEpochs {
			refused(epoch, 1, 0)
		}
		for _, seq := range wrongSeqs {
			refused(1, seq, 0)
		}
		for _, tail := range []int{math.MinInt, -s.places, -2, -1, s.places, s.places + 1, 2 * s.places, s.blocks, 1 << 32, 1<<32 + 1, math.MaxInt} {
			refused(1, 1, tail)
		}
	}
}

// P8.1: a layout that is another size's, no size's, or has one number turned; disks that no layout is of.
func TestOpenRefusesLayouts(t *testing.T) {
	d, l := newDisk(t, 128)
	refused := func(d *disk.Disk, l api.Layout) {
		t.Helper()
		if j, err := journal.Open(d, l, 1, 1, 0); j != nil || err != api.ErrArg {
			t.Fatal(l, err)
		}
	}
	for blocks := 64; blocks <= 512; blocks++ {
		if other, _ := layout.Of(blocks); blocks != 128 {
			refused(d, other)
		}
	}
	refused(d, api.Layout{})
	for _, by := range []int{math.MinInt, -128, -16, -1, 1, 2, 16, 1 << 32, math.MaxInt} {
		for i := range 7 {
			turned := l
			*[]*int{&turned.Blocks, &turned.Log, &turned.LogBlocks, &turned.Bits, &turned.Inodes, &turned.InodeBlocks, &turned.Data}[i] += by
			refused(d, turned)
		}
	}
	for _, blocks := range []int{1, 2, 16, 62, 63} {
		small, err := disk.New(blocks)
		if err != api.OK {
			t.Fatal(err)
		}
		refused(small, api.Layout{})
		refused(small, l)
		refused(small, api.Layout{Blocks: blocks, Log: 2, LogBlocks: 16, Bits: 18, Inodes: 19, InodeBlocks: blocks / 16, Data: 19 + blocks/16})
	}
}

// P8.1, R5: no disk, and disks that no call made, whatever stands beside them: ErrNil comes first.
func TestOpenOfNoDisk(t *testing.T) {
	made, l := newDisk(t, 64)
	copied := *made
	for i, d := range []*disk.Disk{nil, {}, new(disk.Disk), &copied} {
		for _, l := range []api.Layout{{}, l, {Blocks: -1}} {
			for _, n := range []int{math.MinInt, -1, 0, 1, math.MaxInt} {
				if j, err := journal.Open(d, l, n, n, n); j != nil || err != api.ErrNil {
					t.Fatal(i, l, n, err)
				}
			}
			if j, err := journal.Open(d, l, 1, 1, 0); j != nil || err != api.ErrNil {
				t.Fatal(i, l, err)
			}
		}
	}
}

// P8.1: disks that Load and Copy answered are disks, too; Open asks nothing of the disk's power.
func TestOpenOfAnyDisk(t *testing.T) {
	d, l := newDisk(t, 64)
	loaded, err := disk.Load(d.Image())
	if err != api.OK {
		t.Fatal(err)
	}
	down := d.Copy()
	down.Arm(0)
	down.Flush()
	armed := d.Copy()
	armed.Arm(0)
	for i, d := range []*disk.Disk{d, loaded, d.Copy(), down, armed} {
		j, err := journal.Open(d, l, 1, 1, 3)
		if err != api.OK || j.Broken() || d.Writes() != 0 {
			t.Fatal(i, err)
		}
	}
	if err := armed.Flush(); err != api.ErrDown {
		t.Fatal(err)
	}
}

// R5: journals that Open did not make answer zeros and ErrNil, whatever they are asked; a copy by value is none, and the one it is of goes on.
func TestNoJournal(t *testing.T) {
	p := open(t, 64, 1, 7, 3)
	p.askAll(t, []call{reserve(2), put(1), flush()})
	copied := *p.journal
	broken := open(t, 64, 1, 7, 3)
	broken.askAll(t, []call{arm(0), flush()})
	copiedBroken := *broken.journal
	for i, j := range []*journal.Journal{nil, {}, new(journal.Journal), &copied, &copiedBroken} {
		for _, n := range append([]int{1, 2, 6, 7, 32}, wrongCounts...) {
			if a, b, c := j.Reserve(n), j.Cancel(n), j.Release(n); a != api.ErrNil || b != api.ErrNil || c != api.ErrNil {
				t.Fatal(i, n, a, b, c)
			}
		}
		for _, n := range []int{0, 1, 2, 15, 16, 32, 33} {
			for _, reserved := range []bool{false, true} {
				if seq, err := j.Append(some(n), reserved); seq != 0 || err != api.ErrNil {
					t.Fatal(i, n, seq, err)
				}
			}
		}
		if err := j.Flush(); err != api.ErrNil {
			t.Fatal(i, err)
		}
		at, first := j.Tail()
		if j.Next() != 0 || j.Synced() != 0 || at != 0 || first != 0 || len(j.Groups()) != 0 || j.Ring() != (api.Ring{}) || j.Broken() {
			t.Fatal(i, j.Next(), j.Synced(), at, first, j.Groups(), j.Ring(), j.Broken())
		}
	}
	p.same(t, "behind its copy's calls")
	p.askAll(t, []call{putHeld(2), flush(), release(8)})
}

// A journal that was made and is overwritten by another, or by nothing, is none any more.
func TestJournalOverwritten(t *testing.T) {
	d, l := newDisk(t, 64)
	a, _ := journal.Open(d, l, 1, 1, 0)
	b, _ := journal.Open(d, l, 1, 1, 0)
	*a = *b
	if err := a.Flush(); err != api.ErrNil || a.Next() != 0 {
		t.Fatal(err, a.Next())
	}
	*b = journal.Journal{}
	if err := b.Flush(); err != api.ErrNil || b.Next() != 0 {
		t.Fatal(err, b.Next())
	}
}

// states are ways for a journal of 16 places, whose next number is 5, to become what it is.
func states() [][]call {
	return [][]call{
		{},
		{reserve(1)},
		{reserve(7)},
		{reserve(15)},
		{reserve(7), reserve(7)},
		{reserve(7), cancel(3)},
		{reserve(7), cancel(7)},
		{put(1)},
		{put(7)},
		{put(14)},
		{put(15)},
		{put(7), put(7)},
		{put(1), flush()},
		{put(1), flush(), put(2)},
		{put(3), put(1), put(2), flush()},
		{put(3), put(1), put(2), flush(), release(5)},
		{put(3), put(1), put(2), flush(), release(6)},
		{put(3), put(1), put(2), flush(), release(7)},
		{put(3), put(1), flush(), put(2), release(6)},
		{put(3), put(1), flush(), put(2), reserve(3), release(5)},
		{put(15), flush(), release(5), put(15)},
		{reserve(5), putHeld(2)},
		{reserve(5), putHeld(5)},
		{reserve(5), put(7), flush()},
		{reserve(3), put(11)},
		{put(7), flush(), reserve(7)},
		{put(9), flush(), release(5), put(9), flush(), reserve(2), putHeld(1)},
		{put(2), fail(0), flush()},
		{put(2), reserve(3), fail(1), putHeld(3)},
		{put(1), flush(), put(2), arm(0), flush()},
		{reserve(15), arm(7), putHeld(15)},
	}
}

// wrongImages are lists that no right group has.
func wrongImages() [][]api.Image {
	turn := func(n, at, block, length int) []api.Image {
		l := some(n)
		l[at] = api.Image{Block: block, Data: make([]byte, length)}
		return l
	}
	var out [][]api.Image
	for _, block := range []int{math.MinInt, -512, -1, 512, 513, 1 << 16, 1<<32 + 40, math.MaxInt} {
		out = append(out, turn(1, 0, block, 4096), turn(3, 2, block, 4096), turn(16, 8, block, 4096))
	}
	for _, length := range []int{0, 1, 512, 4095, 4097, 8192} {
		out = append(out, turn(1, 0, 40, length), turn(3, 1, 511, length), turn(16, 15, 511, length))
	}
	twice := some(2)
	twice[1].Block = twice[0].Block
	return append(out, nil, []api.Image{}, some(33), some(34), some(100), twice, append(some(5), some(5)[4]), []api.Image{{}})
}

// calls are all that may be asked of a journal whose next number was 5 to begin with.
func calls() []call {
	out := []call{flush()}
	for n := -1; n <= 34; n++ {
		out = append(out, reserve(n), cancel(n))
	}
	for _, n := range wrongCounts {
		out = append(out, reserve(n), cancel(n), release(n))
	}
	for n := range 12 {
		out = append(out, release(n))
	}
	for _, n := range []int{0, 1, 2, 3, 4, 6, 7, 8, 14, 15, 16, 17, 31, 32, 33} {
		out = append(out, put(n), putHeld(n))
	}
	for _, l := range wrongImages() {
		out = append(out, add(l, false), add(l, true))
	}
	return out
}

// P8.2 to P8.4, R2: each call of a journal in each state, errors in their order. What is refused changes nothing: the next call finds the state as it was.
func TestCalls(t *testing.T) {
	every := calls()
	for i, state := range states() {
		var p pair
		changed := true
		for k, c := range every {
			if changed {
				p = open(t, 64, 3, 5, (i+k*5)%16)
				p.askAll(t, state)
			}
			if changed = p.ask(t, c) == api.OK; changed {
				p.sameBytes(t, c.name)
				p.stand(t, c.name)
			}
		}
		p.askAll(t, []call{put(1), flush(), release(5)})
		p.sameBytes(t, "behind all calls")
		p.stand(t, "behind all calls")
	}
}

// P8.2: with every ring's size: more blocks than it has, all of it, one more than is free, one more than is reserved.
func TestReserveAndCancel(t *testing.T) {
	for _, s := range sizes {
		p := open(t, s.blocks, 1, 1, s.places-1)
		for _, n := range append(wrongCounts, 1, 2, 14, 15, 16, 17, 30, 31, 32) {
			p.ask(t, cancel(n)) // nothing is reserved
			if p.ask(t, reserve(n)) == api.OK {
				p.ask(t, cancel(n+1))
				p.ask(t, cancel(n))
			} else if within := 1 <= n && n <= 32; within != (p.journal.Reserve(n) == api.ErrLogFull) {
				t.Fatal(s, n)
			}
		}
		for p.ask(t, reserve(1)) == api.OK {
		}
		if held := p.journal.Ring().Held; held != s.places/2*2 {
			t.Fatal(s, held)
		}
		p.ask(t, put(1))
		for p.ask(t, cancel(1)) == api.OK {
		}
		if p.journal.Ring() != (api.Ring{Size: s.places, Tail: s.places - 1}) || p.disk.Writes() != 0 {
			t.Fatal(s, p.journal.Ring())
		}
	}
}

// P8.2: just what is free, and one more, behind groups of every size.
func TestReserveWhatIsFree(t *testing.T) {
	for used := 1; used <= 15; used++ {
		for n := 1; n <= 15; n++ {
			p := open(t, 64, 1, 1, used)
			p.ask(t, put(used))
			want := api.ErrFull
			if used+1+n+1 <= 16 {
				want = api.OK
			}
			if err := p.ask(t, reserve(n)); err != want {
				t.Fatal(used, n, err)
			}
			p.ask(t, put(14-used-n))
			p.ask(t, putHeld(n))
		}
	}
}

// P8.2: room that is reserved may be taken in other parts, and given back in others.
func TestReservedInParts(t *testing.T) {
	p := open(t, 64, 1, 1, 9)
	p.askAll(t, []call{reserve(15), putHeld(3), cancel(2), put(2), putHeld(8), putHeld(1), put(1), cancel(1)})
	if p.journal.Ring() != (api.Ring{Size: 16, Tail: 9, Used: 16}) || !slices.Equal(p.journal.Groups(), []int{1, 2, 3}) {
		t.Fatal(p.journal.Ring(), p.journal.Groups())
	}
	p.stand(t, "in parts")
}

// P8.3: of each number of images from each place of the ring on: its blocks, written in order, go round, and no other block is touched.
func TestAppendPlaces(t *testing.T) {
	for tail := range 16 {
		for n := 1; n <= 15; n++ {
			d, l := newDisk(t, 64)
			for b := range 64 {
				d.Write(b, bytes.Repeat([]byte{byte(b), 0xEE}, 2048))
			}
			d.Flush()
			before := d.Image()
			j, _ := journal.Open(d, l, 1<<23, 1<<38+5, tail)
			images := someOf(n, tail)
			if seq, err := j.Append(images, false); seq != 1<<38+5 || err != api.OK {
				t.Fatal(tail, n, seq, err)
			}
			var want []int
			for i := range n + 1 {
				want = append(want, 2+(tail+i)%16)
			}
			if !slices.Equal(d.Pending(), want) || d.Writes() != 64+n+1 {
				t.Fatal(tail, n, d.Pending())
			}
			var blocks [][]byte
			for _, b := range want {
				block, _ := d.Read(b)
				blocks = append(blocks, block)
			}
			g, err := record.Get(blocks)
			if err != api.OK || g.Epoch != 1<<23 || g.Seq != 1<<38+5 || !sameImages(g.Images, images) {
				t.Fatal(tail, n, err, g.Epoch, g.Seq)
			}
			after := d.Image()
			for b := range 64 {
				if !slices.Contains(want, b) && !bytes.Equal(after[4096*b:4096*b+4096], before[4096*b:4096*b+4096]) {
					t.Fatal(tail, n, b)
				}
			}
		}
	}
}

func sameImages(a, b []api.Image) bool {
	return slices.EqualFunc(a, b, func(x, y api.Image) bool { return x.Block == y.Block && bytes.Equal(x.Data, y.Data) })
}

// P8.3: as many images as fit in, and one more, with every ring's size, reserved and not.
func TestAppendWhatFits(t *testing.T) {
	for _, s := range sizes {
		most := min(s.places-1, 32)
		for n := 1; n <= 33; n++ {
			p := open(t, s.blocks, 2, 9, s.places/2)
			want := api.OK
			switch {
			case n > 32:
				want = api.ErrGroup
			case n > most:
				want = api.ErrLogFull
			}
			if err := p.ask(t, put(n)); err != want {
				t.Fatal(s, n, err)
			}
			q := open(t, s.blocks, 2, 9, s.places/2)
			if want == api.OK {
				want = api.ErrArg // nothing is reserved
			}
			if err := q.ask(t, putHeld(n)); err != want {
				t.Fatal(s, n, err)
			}
			q.ask(t, reserve(n))
			q.ask(t, putHeld(n))
			q.stand(t, "reserved")
		}
	}
}

// P8.3: the greatest number is given to a group, and none behind it; what else is asked goes on.
func TestNumbersEnd(t *testing.T) {
	p := open(t, 64, 1<<23, 1<<39-1, 15)
	p.askAll(t, []call{reserve(2), put(1), put(2), put(1), putHeld(2), put(16), flush()})
	if p.journal.Next() != 1<<39+1 || p.journal.Synced() != 1<<39 || !slices.Equal(p.journal.Groups(), []int{1<<39 - 1, 1 << 39}) {
		t.Fatal(p.journal.Next(), p.journal.Synced(), p.journal.Groups())
	}
	p.askAll(t, []call{release(1<<39 + 1), release(1<<39 - 1), release(1 << 39), put(1), reserve(1), cancel(2), cancel(1), flush()})
	if at, first := p.journal.Tail(); at != 15+2+3-16 || first != 1<<39+1 || p.journal.Broken() {
		t.Fatal(at, first)
	}
}

// spoil changes all bytes that images have, and those behind them.
func spoil(l []api.Image) {
	for i := range l {
		data := l[i].Data[:cap(l[i].Data)]
		for at := range data {
			data[at] ^= 0xFF
		}
		l[i].Block = 99
	}
}

// R3: what Append is handed stays as it is, with its spare room, and may be changed behind it.
func TestAppendKeepsNothing(t *testing.T) {
	d, l := newDisk(t, 64)
	j, _ := journal.Open(d, l, 1, 1, 14)
	room := someOf(6, 4)
	for i := range room {
		room[i].Data = append(room[i].Data, bytes.Repeat([]byte{0xAB}, 100)...)[:4096]
	}
	kept := make([]api.Image, len(room))
	for i, image := range room {
		kept[i] = api.Image{Block: image.Block, Data: bytes.Clone(image.Data[:4196])}
	}
	for _, reserved := range []bool{false, true, false} {
		j.Append(room[:3], reserved) // the second is refused, the third comes upon places 2 to 5
	}
	for i, image := range room {
		if image.Block != kept[i].Block || len(image.Data) != 4096 || !bytes.Equal(image.Data[:4196], kept[i].Data) {
			t.Fatal(i)
		}
	}
	before := d.Image()
	spoil(room)
	if !bytes.Equal(d.Image(), before) {
		t.Fatal("the disk has changed with what was handed in")
	}
}

// R3: what Groups answers is new memory, spare room too.
func TestGroupsAreNew(t *testing.T) {
	p := open(t, 64, 1, 5, 0)
	p.askAll(t, []call{put(1), put(1), put(1), put(1), put(1), flush(), release(6)})
	a, b := p.journal.Groups(), p.journal.Groups()
	for _, l := range [][]int{a, a[:cap(a)]} {
		for i := range l {
			l[i] = -7
		}
	}
	_ = append(a[:1], -8, -8, -8, -8)
	if !slices.Equal(b, []int{7, 8, 9}) {
		t.Fatal(b)
	}
	p.same(t, "behind a change of the answer")
	p.askAll(t, []call{put(2), flush(), release(8)})
}

// P8.3: the power fails behind each of an Append's writes, or the disk fails once: the journal is broken, and nothing else has changed; what was written ahead of it lies in places that were free.
func TestAppendBreaks(t *testing.T) {
	for _, stop := range []struct {
		by  func(int) call
		err api.Errno
	}{{arm, api.ErrDown}, {fail, api.ErrIO}} {
		for _, reserved := range []bool{false, true} {
			for n := 1; n <= 8; n++ {
				for ops := 0; ops <= n+1; ops++ {
					p := open(t, 64, 2, 5, 12)
					p.askAll(t, []call{put(2), put(1), flush(), put(1)})
					if reserved {
						p.ask(t, reserve(n))
					}
					p.ask(t, stop.by(ops))
					err := p.ask(t, add(someOf(n, 3), reserved))
					if broken := ops <= n; broken != (err == stop.err) || broken != p.journal.Broken() || !broken && err != api.OK {
						t.Fatal(n, ops, err)
					}
					p.sameBytes(t, "behind a break")
					p.disk.Crash(slices.Repeat([]bool{true}, n+3), -1, 0)
					p.model.disk.Crash(slices.Repeat([]bool{true}, n+3), -1, 0)
					p.stand(t, "behind a break")
					if p.journal.Broken() {
						stayBroken(t, p)
					}
				}
			}
		}
	}
}

// stayBroken is that each later call is answered ErrIO, whatever it is given, with the power back, and asks the disk nothing.
func stayBroken(t *testing.T, p pair) {
	t.Helper()
	before := p.disk.Image()
	for _, n := range []int{math.MinInt, -1, 0, 1, 2, 5, 16, 32, 33, math.MaxInt} {
		for _, c := range []call{reserve(n), cancel(n), release(n), flush()} {
			if err := p.ask(t, c); err != api.ErrIO {
				t.Fatal(c.name, n, err)
			}
		}
	}
	for _, l := range [][]api.Image{nil, some(1), some(16), some(33), {{Block: -1}}} {
		for _, reserved := range []bool{false, true} {
			if err := p.ask(t, add(l, reserved)); err != api.ErrIO {
				t.Fatal(len(l), err)
			}
		}
	}
	if !p.journal.Broken() || !bytes.Equal(p.disk.Image(), before) {
		t.Fatal("a broken journal has gone on")
	}
}

// P8.3: a Flush that the disk refuses breaks the journal; Synced stays.
func TestFlushBreaks(t *testing.T) {
	for _, state := range [][]call{{}, {put(1)}, {put(1), flush()}, {put(1), flush(), put(2), reserve(1)}} {
		for _, stop := range []struct {
			by  call
			err api.Errno
		}{{arm(0), api.ErrDown}, {fail(0), api.ErrIO}} {
			p := open(t, 64, 1, 5, 3)
			p.askAll(t, state)
			synced := p.journal.Synced()
			p.ask(t, stop.by)
			if err := p.ask(t, flush()); err != stop.err || !p.journal.Broken() || p.journal.Synced() != synced {
				t.Fatal(err, p.journal.Synced())
			}
			p.disk.Crash(nil, -1, 0)
			p.model.disk.Crash(nil, -1, 0)
			stayBroken(t, p)
		}
	}
}

// P8.3: a disk that is none any more fails a journal as any other error does.
func TestDiskGone(t *testing.T) {
	for _, c := range []call{put(1), flush()} {
		d, l := newDisk(t, 64)
		j, _ := journal.Open(d, l, 1, 1, 0)
		*d = disk.Disk{}
		if _, err := c.do(j, d); err != api.ErrNil || !j.Broken() || j.Next() != 1 || j.Ring() != (api.Ring{Size: 16}) {
			t.Fatal(c.name, err, j.Broken())
		}
		if err := j.Flush(); err != api.ErrIO {
			t.Fatal(err)
		}
	}
}

// What is refused ahead of the disk, and what asks nothing of it, neither breaks a journal nor counts as the disk's operation.
func TestDiskNotAsked(t *testing.T) {
	p := open(t, 64, 1, 1, 0)
	p.askAll(t, []call{put(2), put(1), flush(), reserve(3), arm(0)})
	p.askAll(t, []call{reserve(1), reserve(20), reserve(15), reserve(0), cancel(0), cancel(9), cancel(1), put(0), put(16), put(33), put(9), putHeld(4), release(1), release(9), release(2)})
	if p.journal.Broken() || len(p.journal.Groups()) != 0 {
		t.Fatal(p.journal.Groups())
	}
	if err := p.ask(t, flush()); err != api.ErrDown { // the power was there till now
		t.Fatal(err)
	}
}

// The section 'Errors': of a call in which several things go wrong the first is told.
func TestErrorsInOrder(t *testing.T) {
	twice := append(some(20), some(20)...)
	p := open(t, 64, 1, 5, 0)
	p.askAll(t, []call{put(14), fail(0)})
	for _, c := range []struct {
		call call
		want api.Errno
	}{
		{add(twice, true), api.ErrGroup}, // too many for a group, for the ring, for what is reserved, for what is free
		{add(twice, false), api.ErrGroup},
		{putHeld(20), api.ErrLogFull}, // too many for the ring, for what is reserved
		{put(20), api.ErrLogFull},     // too many for the ring, for what is free
		{putHeld(5), api.ErrArg},      // not reserved, and no room either
		{put(5), api.ErrFull},
		{reserve(40), api.ErrArg},
		{reserve(20), api.ErrLogFull},
		{reserve(5), api.ErrFull},
		{cancel(40), api.ErrArg},
		{cancel(5), api.ErrArg},
		{release(5), api.ErrArg},      // not flushed
		{flush(), api.ErrIO},          // the disk's
		{add(twice, true), api.ErrIO}, // and now it is broken
		{reserve(40), api.ErrIO},
		{cancel(40), api.ErrIO},
		{release(math.MaxInt), api.ErrIO},
		{release(math.MinInt), api.ErrIO},
		{add([]api.Image{{}, {}}, true), api.ErrIO},
	} {
		if err := p.ask(t, c.call); err != c.want {
			t.Fatal(c.call.name, err, c.want)
		}
	}
}

// P8.3: Synced is what was appended when Flush was last done, and Next one more with each group.
func TestSyncedAndNext(t *testing.T) {
	p := open(t, 512, 1, 100, 60)
	for i := range 8 {
		if p.journal.Next() != 100+i || p.journal.Synced() != 99+i/3*3 {
			t.Fatal(i, p.journal.Next(), p.journal.Synced())
		}
		p.ask(t, put(i+1))
		if i%3 == 2 {
			p.ask(t, flush())
			p.ask(t, flush())
		}
	}
	p.ask(t, release(p.journal.Synced()))
	if p.journal.Next() != 108 || p.journal.Synced() != 105 || !slices.Equal(p.journal.Groups(), []int{106, 107}) {
		t.Fatal(p.journal.Next(), p.journal.Synced(), p.journal.Groups())
	}
}

// P8.4: numbers below the first group's, of each group, of what was not flushed, and again of what was let go.
func TestRelease(t *testing.T) {
	for tail := range 16 {
		for seq := -2; seq <= 16; seq++ {
			p := open(t, 64, 1, 5, tail)
			p.askAll(t, []call{put(2), put(1), put(4), flush(), put(1)})
			err := p.ask(t, release(seq))
			if above := seq > 7; above != (err == api.ErrArg) || !above && err != api.OK {
				t.Fatal(tail, seq, err)
			}
			want := []int{5, 6, 7, 8}
			if err == api.OK {
				want = want[max(seq-4, 0):]
			}
			if !slices.Equal(p.journal.Groups(), want) {
				t.Fatal(tail, seq, p.journal.Groups())
			}
			before := p.journal.Ring()
			if again := p.ask(t, release(seq)); again != err || p.journal.Ring() != before {
				t.Fatal(tail, seq, again)
			}
			p.stand(t, "behind Release")
			p.askAll(t, []call{release(4), release(math.MinInt), release(5), flush(), release(7), release(8), release(9)})
			if at, first := p.journal.Tail(); at != (tail+12)%16 || first != 9 || len(p.journal.Groups()) != 0 {
				t.Fatal(tail, seq, at, first)
			}
		}
	}
}

// P8.4: what was let go is free again, what is reserved stays so.
func TestReleaseFrees(t *testing.T) {
	p := open(t, 64, 1, 1, 5)
	p.askAll(t, []call{put(6), put(4), reserve(3), put(1), flush(), release(1), put(6), flush(), release(2), put(5), put(4)})
	if p.journal.Ring() != (api.Ring{Size: 16, Tail: 1, Used: 12, Held: 4}) || !slices.Equal(p.journal.Groups(), []int{3, 4}) {
		t.Fatal(p.journal.Ring(), p.journal.Groups())
	}
}

// Two journals share a disk and nothing else.
func TestTwoJournals(t *testing.T) {
	d, l := newDisk(t, 64)
	a, _ := journal.Open(d, l, 1, 1, 0)
	b, _ := journal.Open(d, l, 2, 50, 8)
	a.Append(some(1), false)
	a.Reserve(3)
	if b.Next() != 50 || b.Ring() != (api.Ring{Size: 16, Tail: 8}) || len(b.Groups()) != 0 {
		t.Fatal(b.Next(), b.Ring())
	}
	if n, err := b.Append(some(2), false); n != 50 || err != api.OK || !slices.Equal(d.Pending(), []int{2, 3, 10, 11, 12}) {
		t.Fatal(n, err, d.Pending())
	}
	b.Flush()
	if a.Synced() != 0 || b.Synced() != 50 || !slices.Equal(a.Groups(), []int{1}) {
		t.Fatal(a.Synced(), b.Synced())
	}
	d.Fail(0)
	if err := a.Flush(); err != api.ErrIO || !a.Broken() || b.Broken() {
		t.Fatal(err, b.Broken())
	}
}

// randomCall is a call that mostly may be, of a journal in the state of m.
func randomCall(r *rand.Rand, m *model, mark int) call {
	n := 1 + r.Intn(min(m.size, 33))
	if r.Intn(2) == 0 {
		n = 1 + r.Intn(4)
	}
	switch r.Intn(12) {
	case 0:
		return reserve(n)
	case 1:
		return cancel(1 + r.Intn(max(m.held, 1)))
	case 2, 3, 4, 5:
		return add(someOf(n, mark), false)
	case 6:
		return add(someOf(max(min(n, m.held-1), 1), mark), true)
	case 7, 8:
		return flush()
	default:
		_, first := m.Tail()
		return release(first + r.Intn(5) - 1)
	}
}

// P8.5: through long runs of calls no two groups share a place, and each stands there, whole, till it is let go.
func TestLongRuns(t *testing.T) {
	for _, s := range sizes {
		r := rand.New(rand.NewSource(int64(s.blocks)))
		p := open(t, s.blocks, 1+r.Intn(1<<23), 1+r.Intn(1<<39-1000), r.Intn(s.places))
		begun := p.journal.Next()
		for mark := range 1500 {
			c := randomCall(r, p.model, mark)
			p.ask(t, c)
			p.stand(t, c.name)
		}
		p.sameBytes(t, "behind a long run")
		if p.journal.Broken() || p.journal.Next() < begun+150 {
			t.Fatal(s, p.journal.Next()-begun)
		}
	}
}

// P8.5: behind a crash of whatever kind, groups that were flushed and not let go stand whole, whatever was appended behind them.
func TestFlushedStandsBehindCrashes(t *testing.T) {
	r := rand.New(rand.NewSource(8))
	p := open(t, 64, 1, 1, 11)
	for mark := range 2000 {
		c := randomCall(r, p.model, mark)
		p.ask(t, c)
		crashed := p.disk.Copy()
		keep := make([]bool, len(crashed.Pending()))
		for i := range keep {
			keep[i] = r.Intn(2) == 0
		}
		crashed.Crash(keep, r.Intn(len(keep)+1)-1, uint8(r.Intn(256)))
		for _, g := range p.model.groups {
			for i, place := range g.places {
				b, _ := crashed.Read(2 + place)
				if g.seq <= p.journal.Synced() && !bytes.Equal(b, g.blocks[i]) {
					t.Fatal(mark, g.seq, place)
				}
			}
		}
	}
}

// R4: the same calls leave the same journal and the same disk.
func TestSameCallsSameDisk(t *testing.T) {
	run := func() (pair, []byte) {
		r := rand.New(rand.NewSource(4))
		p := open(t, 136, 7, 7, 7)
		for mark := range 300 {
			p.ask(t, randomCall(r, p.model, mark))
		}
		return p, p.disk.Image()
	}
	p, a := run()
	q, b := run()
	if !bytes.Equal(a, b) || p.journal.Ring() != q.journal.Ring() || p.journal.Next() != q.journal.Next() {
		t.Fatal(p.journal.Ring(), q.journal.Ring())
	}
}
