package volume_test

import (
	"math/rand"
	"slices"

	"ledgerstone/disk"
)

// crashed is a copy of d behind a crash.
func crashed(d *disk.Disk, keep []bool, torn int, sectors uint8) *disk.Disk {
	c := d.Copy()
	c.Crash(keep, torn, sectors)
	return c
}

// chanceCrash is a copy of d behind a crash that keeps and tears by chance.
func chanceCrash(d *disk.Disk, chance *rand.Rand) *disk.Disk {
	keep := make([]bool, len(d.Pending()))
	odds := 1 + chance.Intn(9)
	for i := range keep {
		keep[i] = chance.Intn(10) < odds
	}
	return crashed(d, keep, chance.Intn(len(keep)+2)-1, uint8(chance.Intn(256)))
}

// someCrashes are copies of d behind crashes: none of the unflushed writes is kept, all, all but the last, just the last, all with the last torn or the first torn, and some by chance.
func someCrashes(d *disk.Disk, seed int) []*disk.Disk {
	writes := len(d.Pending())
	none, all := make([]bool, writes), slices.Repeat([]bool{true}, writes)
	out := []*disk.Disk{crashed(d, none, -1, 0)}
	if writes == 0 {
		return out
	}
	last := writes - 1
	out = append(out,
		crashed(d, all, -1, 0),
		crashed(d, all, last, 0),
		crashed(d, none, last, 0xff),
		crashed(d, all, last, 0x7f),
		crashed(d, all, last, 0x01),
		crashed(d, all, 0, 0xfe),
		crashed(d, none, 0, 0xff),
	)
	chance := rand.New(rand.NewSource(int64(seed)))
	for range 4 {
		out = append(out, chanceCrash(d, chance))
	}
	return out
}

// allCrashes are copies of d behind all crashes: any of the unflushed writes kept, none torn or each one by each of sets.
func allCrashes(d *disk.Disk, sets []uint8, then func(c *disk.Disk)) {
	writes := len(d.Pending())
	for mix := range 1 << writes {
		keep := make([]bool, writes)
		for i := range keep {
			keep[i] = mix>>i&1 == 1
		}
		then(crashed(d, keep, -1, 0))
		for torn := range writes {
			if !keep[torn] { // what keep says of the torn one does not count
				continue
			}
			for _, sectors := range sets {
				then(crashed(d, keep, torn, sectors))
			}
		}
	}
}
