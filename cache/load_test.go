package cache_test

import (
	"math"
	"testing"

	"ledgerstone/api"
)

// P12.2: Load of all blocks of a volume, the last one too, tells what the volume has.
func TestLoadTellsTheVolume(t *testing.T) {
	for _, blocks := range []int{64, 136, 512} {
		for _, room := range []int{1, 2, 64} {
			c, v, _ := fresh(t, blocks, room)
			if _, err := v.Commit([]api.Image{image(30+blocks/8, mixed(1, 1)), image(blocks-1, mixed(2, 1))}); err != api.OK {
				t.Fatal(err)
			}
			for n := range blocks {
				want, err := v.Read(n)
				is(t, err, api.OK, n)
				tells(t, c, n, want, blocks, room)
				tells(t, c, n, want, blocks, room, "again")
			}
		}
	}
}

// P12.2: Load of blocks below 0 and past the end: the volume's error, and all stays.
func TestLoadOfNoBlock(t *testing.T) {
	for _, blocks := range []int{64, 136, 512} {
		c, _, _ := fresh(t, blocks, 2)
		for range 2 {
			for _, n := range []int{math.MinInt, -1 << 32, -blocks, -1, blocks, blocks + 1, 1 << 16, 1 << 32, 1<<32 + 30, math.MaxInt} {
				refused(t, c, n, api.ErrBlock, blocks)
			}
			loads(t, c, 0, blocks-1)
			holds(t, c, 0, blocks-1)
		}
	}
}

// P12.2: a block that is held is told as it is held, be the volume changed by others, without power or broken.
func TestLoadOfAHeldBlock(t *testing.T) {
	c, v, d := fresh(t, 64, 4)
	was, _ := v.Read(30)
	loads(t, c, 30, 31)
	is(t, c.Put(31, filled(1)), api.OK)
	if _, err := v.Commit([]api.Image{image(30, filled(2)), image(31, filled(3)), image(32, filled(4))}); err != api.OK {
		t.Fatal(err)
	}
	check := func() {
		t.Helper()
		tells(t, c, 30, was)
		tells(t, c, 31, filled(1))
	}
	check()
	tells(t, c, 32, filled(4))
	is(t, c.Drop(32), api.OK)
	is(t, v.Checkpoint(), api.OK)
	check()
	d.Arm(0)
	is(t, d.Flush(), api.ErrDown)
	check()
	refused(t, c, 33, api.ErrDown) // a Read of the disk, which does not break the volume
	check()
	is(t, v.Sync(), api.ErrDown)
	check()
	refused(t, c, 33, api.ErrIO)
	refused(t, c, -1, api.ErrIO)
	refused(t, c, 64, api.ErrIO)
	check()
	lists(t, c, []int{30, 31}, []int{31}, nil)
}

// P12.2: what is loaded is neither pinned nor dirty, also in a slot that had such a block.
func TestLoadIsNeitherPinnedNorDirty(t *testing.T) {
	c, _, _ := fresh(t, 64, 1)
	loads(t, c, 30)
	lists(t, c, []int{30}, nil, nil)
	is(t, c.Pin(30), api.OK)
	is(t, c.Unpin(30), api.OK)
	is(t, c.Put(30, filled(1)), api.OK)
	is(t, c.Drop(30), api.OK)
	loads(t, c, 31)
	lists(t, c, []int{31}, nil, nil)
	is(t, c.Unpin(31), api.ErrArg)
	is(t, c.Put(31, filled(1)), api.OK)
	commits(t, c, 1, api.OK)
	loads(t, c, 32)
	lists(t, c, []int{32}, nil, nil)
	commits(t, c, 0, api.OK)
}

// P12.2: a Load that the volume refuses makes no room: no block goes, no mark is taken off, the hand stays.
func TestRefusedLoadsMakeNoRoom(t *testing.T) {
	for _, stop := range []string{"no block", "no power", "broken"} {
		p := open(t, 64, 3)
		p.askAll(t, load(30), load(31), load(32), load(33), load(34), load(32), volumeCommit([]api.Image{image(50, filled(5)), image(51, filled(6)), image(52, filled(7))}))
		for range 5 {
			switch stop {
			case "no block":
				p.gets(t, load(64), api.ErrBlock)
				p.gets(t, load(-1), api.ErrBlock)
			case "no power":
				p.askAll(t, arm(0), told("Flush", func(s side) api.Errno { return s.disk.Flush() }))
				p.gets(t, load(40), api.ErrDown)
			case "broken":
				p.askAll(t, arm(0), sync())
				p.gets(t, load(40), api.ErrIO)
			}
			holds(t, p.real, 32, 33, 34)
		}
		if stop == "broken" {
			continue
		}
		for n, want := range [][]int{{33, 34, 50}, {34, 50, 51}, {50, 51, 52}} { // these need no disk
			p.gets(t, load(50+n), api.OK, stop)
			holds(t, p.real, want...)
		}
	}
}

// Errors: the volume's error comes ahead of ErrBusy; ErrBusy is answered only of a block that could be read.
func TestLoadOrderOfErrors(t *testing.T) {
	c, v, d := fresh(t, 64, 2)
	loads(t, c, 30, 31)
	is(t, c.Pin(30), api.OK)
	is(t, c.Put(31, filled(1)), api.OK)
	refused(t, c, 32, api.ErrBusy)
	refused(t, c, -1, api.ErrBlock)
	refused(t, c, 64, api.ErrBlock)
	d.Arm(0)
	is(t, d.Flush(), api.ErrDown)
	refused(t, c, 32, api.ErrDown)
	refused(t, c, 64, api.ErrBlock)
	is(t, v.Sync(), api.ErrDown)
	refused(t, c, 32, api.ErrIO)
	refused(t, c, 64, api.ErrIO)
	loads(t, c, 30, 31)
	lists(t, c, []int{30, 31}, []int{31}, []int{30})
}

// P12.2: blocks that are pinned, dirty, or both leave no room, in any mix; each one that is let go is room again.
func TestLoadWhereAllStay(t *testing.T) {
	for room := 1; room <= 3; room++ {
		mixes := 1
		for range room {
			mixes *= 3
		}
		for mix := range mixes {
			for free := range room {
				p := open(t, 64, room)
				for i := range room {
					p.ask(t, load(30+i))
				}
				kinds := mix
				for i := range room {
					if kinds%3 != 1 {
						p.ask(t, pin(30+i))
					}
					if kinds%3 != 0 {
						p.ask(t, put(30+i, filled(byte(i))))
					}
					kinds /= 3
				}
				for range 2 {
					p.gets(t, load(40), api.ErrBusy, room, mix)
					holds(t, p.real, span(30, room)...)
				}
				p.askAll(t, unpin(30+free), drop(30+free))
				p.gets(t, load(40), api.OK, room, mix)
				p.gets(t, load(41), api.OK, room, mix) // 40 goes
			}
		}
	}
}
