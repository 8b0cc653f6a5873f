package disk

import (
	"ledgerstone/api"
)

// allSectors has the bit of each sector of a block.
const allSectors uint8 = 1<<api.Sectors - 1

// write is what a block is to be; its data is never changed.
type write struct {
	block int
	data  []byte
}

// Crash keeps of the unflushed writes those that keep names, of number torn those sectors alone whose bits are set, and brings the power back.
func (d *Disk) Crash(keep []bool, torn int, sectors uint8) api.Errno {
	if !d.isMade() {
		return api.ErrNil
	}
	for i, w := range d.unflushed {
		switch {
		case i == torn:
			w.carryOut(d.durable, sectors)
		case i < len(keep) && keep[i]:
			w.carryOut(d.durable, allSectors)
		}
	}
	d.unflushed = nil
	d.power = power{}
	return api.OK
}

// carryOut puts those sectors of w upon image whose bits are set.
func (w write) carryOut(image []byte, sectors uint8) {
	block := part(image, w.block, api.Block)
	for s := range api.Sectors {
		if sectors>>s&1 == 1 {
			copy(part(block, s, api.Sector), part(w.data, s, api.Sector))
		}
	}
}

// part is number n of the parts of b that have size bytes; its room ends with it, so that whoever has it reaches no other part.
func part(b []byte, n, size int) []byte {
	start := n * size
	end := start + size
	return b[start:end:end]
}
