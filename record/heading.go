package record

import (
	"bytes"

	"ledgerstone/api"
	"ledgerstone/octets"
	"ledgerstone/sums"
)

// What stands behind the stamps of a head, and where.
const (
	countSize  = 2
	sumSize    = 4
	blockSize  = 2
	hiddenSize = api.Sectors * stampSize
	entriesAt  = countSize + sumSize
	bodySize   = api.Sectors * (api.Sector - stampSize)
)

// heading is what a head says.
type heading struct {
	epoch, seq int
	entries    []entry
}

// entry is what a head says of an image: its Block, and the bytes that its block's stamps hide.
type entry struct {
	block  int
	hidden []byte
}

// putHeading is the head that says h.
func putHeading(h heading) []byte {
	head := make([]byte, api.Block)
	mark, rest := stamp(h.epoch, h.seq), body(h.entries)
	for sector := range sectors(head) {
		copy(sector, mark)
		rest = rest[copy(sector[stampSize:], rest):]
	}
	return head
}

// getHeading is what the head b says.
func getHeading(b []byte) (heading, bool) {
	if len(b) != api.Block {
		return heading{}, false
	}
	mark, _ := octets.U64(b, 0)
	h := heading{entries: entriesOf(bodyOf(b))}
	h.epoch, h.seq = unstamp(mark)
	// A right heading has one form: whatever else stands in b, in its stamps, sum or noughts, makes it another block.
	if !rightHeading(h) || !bytes.Equal(b, putHeading(h)) {
		return heading{}, false
	}
	return h, true
}

// rightHeading is whether some right group has a head that says h.
func rightHeading(h heading) bool {
	if !rightStamp(h.epoch, h.seq) || !within(len(h.entries), 1, api.MaxGroup) {
		return false
	}
	var taken [api.MaxBlocks]bool
	for _, e := range h.entries {
		if !within(e.block, 0, api.MaxBlocks-1) || taken[e.block] {
			return false
		}
		taken[e.block] = true
	}
	return true
}

// body is what stands behind the stamps of a head with these entries.
func body(entries []entry) []byte {
	var rest []byte
	for _, e := range entries {
		rest = octets.Add16(rest, uint16(e.block))
		rest = append(rest, e.hidden...)
	}
	rest = append(rest, make([]byte, bodySize-entriesAt-len(rest))...)
	b := octets.Add16(nil, uint16(len(entries)))
	b = octets.Add32(b, sums.Crc(rest))
	return append(b, rest...)
}

// bodyOf is what stands behind the stamps of a head.
func bodyOf(head []byte) []byte {
	b := make([]byte, 0, bodySize)
	for sector := range sectors(head) {
		b = append(b, sector[stampSize:]...)
	}
	return b
}

// entriesOf is the entries of a body; none, if it has more than a group may have.
func entriesOf(body []byte) []entry {
	count, _ := octets.U16(body, 0)
	if count > api.MaxGroup {
		return nil
	}
	var entries []entry
	for i := range int(count) {
		at := entriesAt + i*(blockSize+hiddenSize)
		block, _ := octets.U16(body, at)
		hidden := body[at+blockSize : at+blockSize+hiddenSize]
		entries = append(entries, entry{int(block), hidden})
	}
	return entries
}
