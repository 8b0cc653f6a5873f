package cache_test

import (
	"bytes"
	"slices"
	"testing"

	"ledgerstone/api"
)

// spoil turns each byte of b, its spare room too.
func spoil(b []byte) {
	b = b[:cap(b)]
	for i := range b {
		b[i] ^= 0xff
	}
}

// spoilList changes each number of l, its spare room too.
func spoilList(l []int) {
	l = l[:cap(l)]
	for i := range l {
		l[i] = -7 - i
	}
}

// R3: what Put was handed, its spare room too, stays as it is through all that is done behind it.
func TestPutLeavesItsArgument(t *testing.T) {
	c, _, _ := fresh(t, 64, 2)
	loads(t, c, 30, 31)
	data := mixed(1, 3)
	was := bytes.Clone(data)
	check := func(what string) {
		t.Helper()
		if !bytes.Equal(data, was) {
			t.Fatal("handed in, and changed by", what)
		}
	}
	for _, length := range []int{0, 1, 4095, 4097, 4096} {
		c.Put(30, data[:length])
		check("Put")
	}
	c.Put(29, data[:4096])
	check("a refused Put")
	b, _ := c.Load(30)
	spoil(b)
	check("who has what Load told")
	is(t, c.Put(30, filled(1)), api.OK)
	check("another Put")
	is(t, c.Put(30, data[4096:8192]), api.OK)
	commits(t, c, 1, api.OK)
	check("Commit")
	is(t, c.Drop(30), api.OK)
	loads(t, c, 32, 33, 34)
	check("another block in its slot")
}

// R3: what Put was handed may be changed later by who has it: Load, Commit and the volume have what it was.
func TestPutKeepsNothingOfItsArgument(t *testing.T) {
	c, v, d := fresh(t, 64, 2)
	loads(t, c, 30, 31)
	data := mixed(1, 2)[:4096]
	is(t, c.Put(30, data), api.OK)
	is(t, c.Put(31, data), api.OK) // the same memory for two blocks
	spoil(data)
	tells(t, c, 30, mixed(1, 1))
	tells(t, c, 31, mixed(1, 1))
	spoil(data)
	commits(t, c, 1, api.OK)
	spoil(data)
	tells(t, c, 30, mixed(1, 1))
	for _, n := range []int{30, 31} {
		if b, _ := v.Read(n); !bytes.Equal(b, mixed(1, 1)) {
			t.Fatal("the volume has other bytes", n)
		}
	}
	is(t, v.Checkpoint(), api.OK)
	if b, _ := d.Read(31); !bytes.Equal(b, mixed(1, 1)) {
		t.Fatal("the disk has other bytes")
	}
	is(t, c.Put(30, filled(2)), api.OK)
	tells(t, c, 31, mixed(1, 1))
}

// R3: what Load told may be changed by who has it, and is new each time: of a block that is loaded, held, Put, and committed.
func TestLoadsAreNew(t *testing.T) {
	c, v, d := fresh(t, 64, 2)
	was, _ := v.Read(30)
	check := func(want []byte, what string) {
		t.Helper()
		stood := d.Image()
		first, err := c.Load(30)
		is(t, err, api.OK, what)
		second, _ := c.Load(30)
		if !bytes.Equal(first, want) {
			t.Fatal("other bytes", what)
		}
		spoil(first)
		if !bytes.Equal(second, want) {
			t.Fatal("two answers share memory", what)
		}
		spoil(second)
		tells(t, c, 30, want, what)
		if !bytes.Equal(d.Image(), stood) {
			t.Fatal("the disk was changed", what)
		}
	}
	check(was, "loaded")
	check(was, "held")
	is(t, c.Put(30, mixed(1, 1)), api.OK)
	check(mixed(1, 1), "Put")
	commits(t, c, 1, api.OK)
	check(mixed(1, 1), "committed")
	is(t, c.Drop(30), api.OK)
	check(mixed(1, 1), "loaded again")
	if b, _ := v.Read(30); !bytes.Equal(b, mixed(1, 1)) {
		t.Fatal("the volume was changed")
	}
}

// R3: what Load told stays as it is, whatever is done behind it.
func TestLoadsStay(t *testing.T) {
	c, v, _ := fresh(t, 64, 1)
	was, _ := v.Read(30)
	first, _ := c.Load(30)
	is(t, c.Put(30, mixed(1, 1)), api.OK)
	second, _ := c.Load(30)
	is(t, c.Put(30, mixed(2, 1)), api.OK)
	commits(t, c, 1, api.OK)
	is(t, c.Put(30, mixed(3, 1)), api.OK)
	is(t, c.Drop(30), api.OK)
	loads(t, c, 31, 32)
	if !bytes.Equal(first, was) || !bytes.Equal(second, mixed(1, 1)) {
		t.Fatal("an answer was changed")
	}
}

// R3: what was committed stays in the volume when the cache's bytes change.
func TestCommittedStays(t *testing.T) {
	c, v, _ := fresh(t, 64, 1)
	loads(t, c, 30)
	is(t, c.Put(30, mixed(1, 1)), api.OK)
	commits(t, c, 1, api.OK)
	is(t, c.Put(30, mixed(2, 1)), api.OK)
	if b, _ := v.Read(30); !bytes.Equal(b, mixed(1, 1)) {
		t.Fatal("the volume has what was not committed")
	}
	is(t, c.Drop(30), api.OK)
	tells(t, c, 30, mixed(1, 1))
}

// R3: the lists may be changed by who has them, their spare room too; each is new.
func TestListsAreNew(t *testing.T) {
	c, _, _ := fresh(t, 512, 64)
	for _, count := range []int{1, 2, 3, 5, 33, 64} {
		loads(t, c, span(100, count)...)
		for n := 100; n < 100+count; n++ {
			is(t, c.Pin(n), api.OK)
			is(t, c.Put(n, filled(1)), api.OK)
		}
		want := span(100, count)
		ways := []func() []int{c.Held, c.Dirty, c.Pinned}
		for i, ask := range ways {
			for _, other := range ways {
				first, second := ask(), other()
				spoilList(first)
				if !slices.Equal(second, want) {
					t.Fatal("two lists share memory", count, i)
				}
				first = append(first, 1)
				spoilList(first)
				if !slices.Equal(second, want) {
					t.Fatal("two lists share memory", count, i)
				}
				lists(t, c, want, want, want, count, i)
			}
		}
		stays := c.Held()
		c.Load(99) // there may be no room
		c.Drop(99)
		if !slices.Equal(stays, want) {
			t.Fatal("a list was changed", stays)
		}
		for n := 100; n < 100+count; n++ {
			is(t, c.Unpin(n), api.OK)
			is(t, c.Drop(n), api.OK)
		}
	}
}
