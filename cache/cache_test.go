package cache_test

import (
	"bytes"
	"math"
	"testing"

	"ledgerstone/api"
	"ledgerstone/cache"
	"ledgerstone/volume"
)

// The chapter's examples.
func TestExamples(t *testing.T) {
	c, v, _ := fresh(t, 64, 2)
	loads(t, c, 30, 31)
	holds(t, c, 30, 31)
	loads(t, c, 32)
	holds(t, c, 31, 32)
	is(t, c.Pin(31), api.OK)
	loads(t, c, 33)
	holds(t, c, 31, 33)
	is(t, c.Put(33, filled(0x61)), api.OK)
	refused(t, c, 34, api.ErrBusy)
	lists(t, c, []int{31, 33}, []int{33}, []int{31})
	commits(t, c, 1, api.OK)
	loads(t, c, 34)
	lists(t, c, []int{31, 34}, nil, []int{31})
	is(t, c.Unpin(30), api.ErrArg)
	if b, err := v.Read(33); err != api.OK || !bytes.Equal(b, filled(0x61)) {
		t.Fatal("not committed", err)
	}
}

// notVolumes are volumes that Mount did not make, and none.
func notVolumes(t *testing.T) []*volume.Volume {
	t.Helper()
	copied := *mount(t, formatted(t, 64))
	return []*volume.Volume{nil, {}, new(volume.Volume), &copied}
}

// P12.1, Errors: New of what is no volume, whatever the room is.
func TestNewOfNoVolume(t *testing.T) {
	for i, v := range notVolumes(t) {
		for _, room := range []int{math.MinInt, -1, 0, 1, 2, 64, 65, math.MaxInt} {
			if c, err := cache.New(v, room); c != nil || err != api.ErrNil {
				t.Error(i, room, c != nil, err)
			}
		}
	}
}

// P12.1: New of rooms that may be, and of such as may not.
func TestNewOfRooms(t *testing.T) {
	v := mount(t, formatted(t, 512))
	for _, room := range []int{math.MinInt, math.MinInt + 1, -1 << 32, -64, -1, 0, 65, 66, 128, 512, 1 << 32, 1<<32 + 1, math.MaxInt} {
		if c, err := cache.New(v, room); c != nil || err != api.ErrArg {
			t.Error(room, c != nil, err)
		}
	}
	for room := 1; room <= 64; room++ {
		lists(t, newCache(t, v, room), nil, nil, nil, room)
	}
}

// P12.1, P12.6: a cache has just as many slots as its room says.
func TestRoomIsAsManySlots(t *testing.T) {
	v := mount(t, formatted(t, 512))
	for room := 1; room <= 64; room++ {
		c := newCache(t, v, room)
		for i := range 3 * room {
			loads(t, c, 100+i)
			if held := c.Held(); len(held) != min(i+1, room) {
				t.Fatal(room, i, held)
			}
		}
		c = newCache(t, v, room)
		for i := range room {
			loads(t, c, 100+i)
			is(t, c.Pin(100+i), api.OK)
		}
		refused(t, c, 99, api.ErrBusy, room)
		lists(t, c, span(100, room), nil, span(100, room), room)
	}
}

// P12.1: a volume that is broken is one.
func TestNewOfABrokenVolume(t *testing.T) {
	d := formatted(t, 64)
	v := mount(t, d)
	d.Arm(0)
	is(t, v.Sync(), api.ErrDown)
	c := newCache(t, v, 2)
	refused(t, c, 30, api.ErrIO)
	lists(t, c, nil, nil, nil)
	commits(t, c, 0, api.OK)
	if _, err := cache.New(v, 0); err != api.ErrArg {
		t.Fatal(err)
	}
}

// P12.1: New reads and writes nothing; caches of one volume are apart.
func TestCachesAreApart(t *testing.T) {
	d := formatted(t, 64)
	v := mount(t, d)
	writes := d.Writes()
	a, b := newCache(t, v, 2), newCache(t, v, 2)
	if d.Writes() != writes || len(d.Pending()) != 0 {
		t.Fatal("New writes")
	}
	loads(t, a, 30)
	is(t, a.Put(30, filled(1)), api.OK)
	is(t, a.Pin(30), api.OK)
	lists(t, b, nil, nil, nil)
	was, _ := v.Read(30)
	tells(t, b, 30, was)
	lists(t, b, []int{30}, nil, nil)
	is(t, b.Drop(30), api.OK)
	commits(t, b, 0, api.OK)
	lists(t, a, []int{30}, []int{30}, []int{30})
	commits(t, a, 1, api.OK)
	tells(t, b, 30, filled(1))
}

// notCaches are caches that New did not make, and none.
func notCaches(t *testing.T) []*cache.Cache {
	t.Helper()
	c, _, _ := fresh(t, 64, 2)
	loads(t, c, 30, 31)
	is(t, c.Pin(30), api.OK)
	is(t, c.Put(31, filled(1)), api.OK)
	copied := *c
	other, _, _ := fresh(t, 64, 2)
	*other = *c
	return []*cache.Cache{nil, {}, new(cache.Cache), &copied, other}
}

// R5: each call of a cache that is nil, or that New did not make, whatever the arguments are.
func TestNoCache(t *testing.T) {
	for i, c := range notCaches(t) {
		for _, n := range []int{math.MinInt, -1, 0, 1, 30, 31, 63, 64, math.MaxInt} {
			refused(t, c, n, api.ErrNil, i)
			is(t, c.Pin(n), api.ErrNil, i, n)
			is(t, c.Unpin(n), api.ErrNil, i, n)
			is(t, c.Drop(n), api.ErrNil, i, n)
			for _, length := range []int{0, 4095, 4096, 4097} {
				is(t, c.Put(n, make([]byte, length)), api.ErrNil, i, n, length)
			}
			is(t, c.Put(n, nil), api.ErrNil, i, n)
		}
		commits(t, c, 0, api.ErrNil, i)
		lists(t, c, nil, nil, nil, i)
	}
}

// R5: a cache whose volume is none any more answers the volume's error where it asks it, and does not panic.
func TestCacheOfALostVolume(t *testing.T) {
	c, v, _ := fresh(t, 64, 2)
	loads(t, c, 30)
	is(t, c.Put(30, filled(1)), api.OK)
	*v = volume.Volume{}
	refused(t, c, 31, api.ErrNil)
	commits(t, c, 0, api.ErrNil)
	tells(t, c, 30, filled(1))
	lists(t, c, []int{30}, []int{30}, nil)
}
