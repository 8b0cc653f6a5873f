package cache

import (
	"slices"

	"ledgerstone/api"
)

// buffer is a block that is held; one without data is an empty slot.
type buffer struct {
	block int
	data  []byte // the cache's own: it is neither handed out nor changed, another one takes its place
	pins  int
	dirty bool
	mark  bool // it was asked for since the hand came by
}

func (b buffer) isEmpty() bool {
	return b.data == nil
}

// stays is whether b may not be let go to make room.
func (b buffer) stays() bool {
	return b.pins > 0 || b.dirty
}

// find is the buffer of block n; nil, if it is not held.
func (c *Cache) find(n int) *buffer {
	for i := range c.slots {
		if b := &c.slots[i]; !b.isEmpty() && b.block == n {
			return b
		}
	}
	return nil
}

// held is the buffer of block n, or why there is none.
func (c *Cache) held(n int) (*buffer, api.Errno) {
	if !c.isMade() {
		return nil, api.ErrNil
	}
	b := c.find(n)
	if b == nil {
		return nil, api.ErrArg
	}
	return b, api.OK
}

// gather is the blocks that are held and of which is says so, rising.
func (c *Cache) gather(is func(b buffer) bool) []int {
	if !c.isMade() {
		return nil
	}
	var blocks []int
	for _, b := range c.slots {
		if !b.isEmpty() && is(b) {
			blocks = append(blocks, b.block)
		}
	}
	slices.Sort(blocks)
	return blocks
}

// makeRoom is a slot that is empty, or was emptied for it; nil, if all stay.
func (c *Cache) makeRoom() *buffer {
	for i := range c.slots {
		if c.slots[i].isEmpty() {
			return &c.slots[i]
		}
	}
	// Twice round: the first time marks are taken off, the second time one without a mark is found, unless all stay.
	for range 2 * len(c.slots) {
		b := &c.slots[c.hand]
		c.hand = (c.hand + 1) % len(c.slots)
		switch {
		case b.stays():
		case b.mark:
			b.mark = false
		default:
			*b = buffer{}
			return b
		}
	}
	return nil
}
