package super

import (
	"slices"

	"ledgerstone/api"
	"ledgerstone/octets"
	"ledgerstone/sums"
)

// extentSize is how many bytes an extent has.
const extentSize = 6

// Where parts of a block of extents lie.
const (
	blanksAt = 2
	sumAt    = 4
	nodeHead = 8 // the extents
)

// Right is whether the extents l are right, however many.
func Right(l []api.Extent) bool {
	end := 0
	wrong := func(e api.Extent) bool {
		// At and Start are held against the last place that will do, for their sums with Count could wrap round.
		last := api.MaxBlocks - e.Count
		if e.Count < 1 || !within(e.At, end, last) || !within(e.Start, 1, last) {
			return true
		}
		end = e.At + e.Count
		return false
	}
	return !slices.ContainsFunc(l, wrong)
}

// PutNode is the block of the extents l.
func PutNode(l []api.Extent) ([]byte, api.Errno) {
	if len(l) > api.MaxNode || !Right(l) {
		return nil, api.ErrArg
	}
	body := padded(extentBytes(l), api.Block-nodeHead)
	b := octets.Add16(nil, uint16(len(l)))
	b = padded(b, sumAt)
	b = octets.Add32(b, sums.Crc(body))
	return append(b, body...), api.OK
}

// GetNode is the extents whose block is b.
func GetNode(b []byte) ([]api.Extent, api.Errno) {
	count, _ := octets.U16(b, 0)
	blanks, _ := octets.U16(b, blanksAt)
	if len(b) != api.Block || count > api.MaxNode || blanks != 0 {
		return nil, api.ErrForm
	}
	l := readExtents(b, nodeHead, int(count))
	sum, _ := octets.U32(b, sumAt)
	body := b[nodeHead:]
	if !Right(l) || !isThenNoughts(body, extentBytes(l)) || sum != sums.Crc(body) {
		return nil, api.ErrForm
	}
	return l, api.OK
}

// extentBytes is the bytes of right extents, one behind the other.
func extentBytes(l []api.Extent) []byte {
	b := make([]byte, 0, len(l)*extentSize)
	for _, e := range l {
		for _, v := range []int{e.At, e.Start, e.Count} {
			b = append(b, octets.Add16(nil, uint16(v))...)
		}
	}
	return b
}

// readExtents is what count extents from at on say, right or not.
func readExtents(b []byte, at, count int) []api.Extent {
	next := func() int {
		v, _ := octets.U16(b, at)
		at += 2
		return int(v)
	}
	var l []api.Extent
	for range count {
		l = append(l, api.Extent{At: next(), Start: next(), Count: next()})
	}
	return l
}
