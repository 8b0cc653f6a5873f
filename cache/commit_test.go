package cache_test

import (
	"bytes"
	"slices"
	"testing"

	"ledgerstone/api"
	"ledgerstone/cache"
	"ledgerstone/disk"
	"ledgerstone/record"
	"ledgerstone/volume"
)

// changed has c hold these blocks, each Put with bytes that hang on tag and on it.
func changed(t *testing.T, c face, tag int, blocks ...int) {
	t.Helper()
	for _, n := range blocks {
		loads(t, c, n)
		is(t, c.Put(n, mixed(1000*tag+n, 1)), api.OK, n)
	}
}

// has is that these blocks of v are as changed has Put them.
func has(t *testing.T, v *volume.Volume, tag int, blocks ...int) {
	t.Helper()
	for _, n := range blocks {
		if b, err := v.Read(n); err != api.OK || !bytes.Equal(b, mixed(1000*tag+n, 1)) {
			t.Fatal("the volume has other bytes", n, err)
		}
	}
}

// P12.4: with none dirty 0 is told, and nothing is asked of the volume, be it without power or broken.
func TestCommitOfNone(t *testing.T) {
	c, v, d := fresh(t, 64, 3)
	writes := d.Writes()
	commits(t, c, 0, api.OK)
	loads(t, c, 30, 31)
	is(t, c.Pin(30), api.OK)
	commits(t, c, 0, api.OK)
	lists(t, c, []int{30, 31}, nil, []int{30})
	is(t, c.Put(31, filled(1)), api.OK)
	is(t, c.Drop(31), api.OK)
	commits(t, c, 0, api.OK)
	if v.Next() != 1 || d.Writes() != writes {
		t.Fatal("a commit of none", v.Next(), d.Writes())
	}
	d.Arm(0)
	commits(t, c, 0, api.OK)
	is(t, v.Sync(), api.ErrDown)
	commits(t, c, 0, api.OK)
	lists(t, c, []int{30}, nil, []int{30})
}

// P12.4: what is dirty is committed, and nothing else; then none is dirty, and all are held as they were.
func TestCommit(t *testing.T) {
	c, v, _ := fresh(t, 64, 5)
	was, _ := v.Read(33)
	loads(t, c, 33, 34)
	changed(t, c, 1, 32, 30, 31)
	is(t, c.Pin(31), api.OK)
	is(t, c.Pin(33), api.OK)
	commits(t, c, 1, api.OK)
	lists(t, c, span(30, 5), nil, []int{31, 33})
	has(t, v, 1, 30, 31, 32)
	for _, n := range []int{30, 31, 32} {
		tells(t, c, n, mixed(1000+n, 1))
	}
	if b, _ := v.Read(33); !bytes.Equal(b, was) || v.Next() != 2 {
		t.Fatal("another block was committed, or another group")
	}
	commits(t, c, 0, api.OK)
	changed(t, c, 2, 31)
	lists(t, c, span(30, 5), []int{31}, []int{31, 33})
	has(t, v, 1, 31)
	commits(t, c, 2, api.OK)
	has(t, v, 2, 31)
	has(t, v, 1, 30, 32)
	if v.Next() != 3 {
		t.Fatal(v.Next())
	}
}

// groupAt is the group whose head is block n of d.
func groupAt(t *testing.T, d *disk.Disk, n int) api.Group {
	t.Helper()
	head, err := d.Read(n)
	is(t, err, api.OK)
	_, _, images, ok := record.Head(head)
	if !ok {
		t.Fatal("no head", n)
	}
	var blocks [][]byte
	for i := range images + 1 {
		b, _ := d.Read(n + i)
		blocks = append(blocks, b)
	}
	g, err := record.Get(blocks)
	is(t, err, api.OK)
	return g
}

// P12.4: all dirty ones are one group, by rising blocks, in whatever order they were loaded and Put, and of what was Put last.
func TestCommitByRisingBlocks(t *testing.T) {
	for i, order := range [][]int{{30, 31, 40, 63}, {63, 40, 31, 30}, {40, 63, 30, 31}, {31, 30, 63, 40}} {
		c, _, d := fresh(t, 64, 4)
		changed(t, c, 1, order...)
		slices.Reverse(order)
		changed(t, c, 2, order[1:]...)
		commits(t, c, 1, api.OK)
		g := groupAt(t, d, 2)
		if g.Seq != 1 || len(g.Images) != 4 || len(d.Pending()) != 5 {
			t.Fatal(i, g.Seq, len(g.Images), d.Pending())
		}
		for k, n := range []int{30, 31, 40, 63} {
			tag := 2
			if n == order[0] {
				tag = 1
			}
			if g.Images[k].Block != n || !bytes.Equal(g.Images[k].Data, mixed(1000*tag+n, 1)) {
				t.Fatal(i, k, g.Images[k].Block)
			}
		}
	}
}

// P12.4: the numbers are the volume's: others that commit count.
func TestCommitNumbers(t *testing.T) {
	d := formatted(t, 64)
	v := mount(t, d)
	a, b := newCache(t, v, 2), newCache(t, v, 2)
	changed(t, a, 1, 30)
	commits(t, a, 1, api.OK)
	changed(t, b, 2, 31)
	commits(t, b, 2, api.OK)
	if n, err := v.Commit([]api.Image{image(32, filled(1))}); n != 3 || err != api.OK {
		t.Fatal(n, err)
	}
	changed(t, a, 3, 31)
	commits(t, a, 4, api.OK)
	has(t, v, 3, 31)
	tells(t, b, 31, mixed(2031, 1))
}

// P12.4: more than a group takes: ErrGroup of more than 32 images, ErrLogFull of more than the ring has blocks for; all stay dirty, and when enough were dropped, the rest is committed.
func TestCommitOfTooMany(t *testing.T) {
	for _, k := range []struct {
		blocks, most int
		want         api.Errno
	}{{64, 15, api.ErrLogFull}, {135, 15, api.ErrLogFull}, {136, 16, api.ErrLogFull}, {264, 32, api.ErrGroup}, {512, 32, api.ErrGroup}} {
		c, v, d := fresh(t, k.blocks, 40)
		first := k.blocks - 40
		changed(t, c, 1, span(first, k.most+1)...)
		writes := d.Writes()
		for range 2 {
			commits(t, c, 0, k.want, k.blocks)
			lists(t, c, span(first, k.most+1), span(first, k.most+1), nil, k.blocks)
		}
		if v.Next() != 1 || v.Broken() || d.Writes() != writes {
			t.Fatal(k.blocks, v.Next(), d.Writes())
		}
		tells(t, c, first, mixed(1000+first, 1))
		is(t, c.Drop(first), api.OK)
		commits(t, c, 1, api.OK, k.blocks)
		has(t, v, 1, span(first+1, k.most)...)
		lists(t, c, span(first+1, k.most), nil, nil, k.blocks)
	}
	// More than 32 is no group, though it does not fit the ring either.
	c, _, _ := fresh(t, 64, 40)
	changed(t, c, 1, span(20, 33)...)
	commits(t, c, 0, api.ErrGroup)
	lists(t, c, span(20, 33), span(20, 33), nil)
}

// P12.4: all of a room of 64 dirty.
func TestCommitOfAFullCache(t *testing.T) {
	c, _, _ := fresh(t, 512, 64)
	changed(t, c, 1, span(400, 64)...)
	commits(t, c, 0, api.ErrGroup)
	lists(t, c, span(400, 64), span(400, 64), nil)
	refused(t, c, 300, api.ErrBusy)
	for n := 432; n < 464; n++ {
		is(t, c.Drop(n), api.OK)
	}
	commits(t, c, 1, api.OK)
	lists(t, c, span(400, 32), nil, nil)
}

// P12.4: a block ahead of Bits may be held and Put, and is refused by the volume; nothing is committed, all stay dirty.
func TestCommitOfABlockAheadOfBits(t *testing.T) {
	for _, wrong := range []int{0, 1, 2, 17} {
		c, v, d := fresh(t, 64, 3)
		changed(t, c, 1, 30, wrong, 18)
		writes := d.Writes()
		for range 2 {
			commits(t, c, 0, api.ErrBlock, wrong)
			lists(t, c, []int{wrong, 18, 30}, []int{wrong, 18, 30}, nil)
		}
		if v.Next() != 1 || v.Broken() || d.Writes() != writes {
			t.Fatal(wrong, v.Next(), d.Writes())
		}
		for _, n := range []int{wrong, 18, 30} {
			tells(t, c, n, mixed(1000+n, 1))
		}
		is(t, c.Drop(wrong), api.OK)
		commits(t, c, 1, api.OK)
		has(t, v, 1, 18, 30)
		lists(t, c, []int{18, 30}, nil, nil)
	}
}

// Errors: the volume's, in its order.
func TestCommitOrderOfErrors(t *testing.T) {
	c, v, d := fresh(t, 64, 40)
	changed(t, c, 1, span(17, 33)...)
	commits(t, c, 0, api.ErrBlock)
	is(t, c.Drop(17), api.OK)
	changed(t, c, 1, 50)
	commits(t, c, 0, api.ErrGroup)
	is(t, c.Drop(50), api.OK)
	commits(t, c, 0, api.ErrLogFull)
	d.Arm(0)
	commits(t, c, 0, api.ErrLogFull)
	is(t, v.Sync(), api.ErrDown)
	commits(t, c, 0, api.ErrIO)
	lists(t, c, span(18, 32), span(18, 32), nil)
}

// stop has an operation of a disk stopped.
type stop struct {
	name string
	set  func(ops int) call
	want api.Errno
}

func stops() []stop {
	return []stop{{"power", arm, api.ErrDown}, {"failure", fail, api.ErrIO}}
}

// P12.4: the power, or one operation, fails at each operation of a Commit, one with a checkpoint too: that is the error, all stay dirty and are told as they were Put, and each later Commit is refused, for the volume is broken.
func TestCommitStopsAtEachOperation(t *testing.T) {
	scenes := []struct {
		name  string
		ahead []call
		ops   int
	}{
		{"a commit", nil, 4},
		{"a commit with a checkpoint", []call{volumeCommit([]api.Image{image(40, filled(4))}), volumeCommit(some(20, 12))}, 1 + 13 + 3 + 4},
	}
	for _, s := range scenes {
		for _, stop := range stops() {
			for k := range s.ops + 1 {
				p := open(t, 64, 4)
				p.askAll(t, s.ahead...)
				for _, n := range []int{32, 30, 31, 33} {
					p.ask(t, load(n))
				}
				for i, n := range []int{31, 30, 32} {
					p.ask(t, put(n, filled(byte(i))))
				}
				p.ask(t, pin(31))
				next := p.real.volume.Next()
				p.ask(t, stop.set(k))
				want := stop.want
				if k == s.ops {
					want = api.OK
				}
				p.gets(t, commit(), want, s.name, stop.name, k)
				if want == api.OK {
					lists(t, p.real, span(30, 4), nil, []int{31})
					continue
				}
				for range 2 {
					lists(t, p.real, span(30, 4), span(30, 3), []int{31}, s.name, stop.name, k)
					for i, n := range []int{31, 30, 32} {
						tells(t, p.real, n, filled(byte(i)))
					}
					p.gets(t, commit(), api.ErrIO, s.name, stop.name, k)
				}
				if p.real.volume.Next() != next || !p.real.volume.Broken() {
					t.Fatal(s.name, stop.name, k)
				}
				p.sameDisks(t, s.name, stop.name, k)
				p.askAll(t, drop(30), unpin(31), drop(31), drop(32))
				p.gets(t, commit(), api.OK)
			}
		}
	}
}

// some is count images of unlike blocks from first on.
func some(first, count int) []api.Image {
	var l []api.Image
	for n := first; n < first+count; n++ {
		l = append(l, image(n, mixed(n, 1)))
	}
	return l
}

// P12.4: what was committed and synced is there behind a crash; what was only Put, or committed and not synced, is not.
func TestCommitThroughACrash(t *testing.T) {
	c, v, d := fresh(t, 64, 4)
	was, _ := v.Read(32)
	changed(t, c, 1, 30, 31)
	commits(t, c, 1, api.OK)
	is(t, v.Sync(), api.OK)
	changed(t, c, 2, 31, 32)
	for _, committed := range []bool{false, true} {
		if committed {
			commits(t, c, 2, api.OK)
		}
		crashed := d.Copy()
		crashed.Crash(nil, -1, 0)
		again := mount(t, crashed)
		has(t, again, 1, 30, 31)
		other, err := cache.New(again, 1)
		is(t, err, api.OK)
		tells(t, other, 32, was)
	}
}
