package scan_test

import (
	"bytes"
	"slices"
	"testing"

	"ledgerstone/api"
	"ledgerstone/disk"
	"ledgerstone/layout"
	"ledgerstone/record"
	"ledgerstone/scan"
)

// model is what the chapter's words tell of the disk that has these bytes: place by place, each of which at most one group has, once.
func model(image []byte, l api.Layout, s api.Super) ([]api.Group, int) {
	at := func(place int) []byte { return blockOf(image, l, place) }
	taken := make([]bool, l.LogBlocks)
	var told []api.Group
	place := s.Tail
	for {
		epoch, seq, images, ok := record.Head(at(place))
		if !ok || epoch != s.Epoch || seq != s.Seq+len(told) {
			return told, place
		}
		next := place
		var blocks [][]byte
		for range record.Blocks(images) {
			if taken[next] {
				return told, place
			}
			taken[next] = true
			blocks = append(blocks, at(next))
			if next++; next == l.LogBlocks {
				next = 0
			}
		}
		g, err := record.Get(blocks)
		if err != api.OK {
			return told, place
		}
		told = append(told, g)
		place = next
	}
}

// blockOf is the block of an image that is that place of the ring.
func blockOf(image []byte, l api.Layout, place int) []byte {
	return image[(l.Log+place)*4096:][:4096]
}

// sameGroups is whether two lists have the same groups.
func sameGroups(a, b []api.Group) bool {
	return slices.EqualFunc(a, b, func(a, b api.Group) bool {
		return a.Epoch == b.Epoch && a.Seq == b.Seq && slices.EqualFunc(a.Images, b.Images, func(a, b api.Image) bool {
			return a.Block == b.Block && bytes.Equal(a.Data, b.Data)
		})
	})
}

// deepCopy is the same groups in memory of their own.
func deepCopy(groups []api.Group) []api.Group {
	out := slices.Clone(groups)
	for i := range out {
		out[i].Images = slices.Clone(out[i].Images)
		for n := range out[i].Images {
			out[i].Images[n].Data = bytes.Clone(out[i].Images[n].Data)
		}
	}
	return out
}

// names is groups as texts would show them, without their bytes.
func names(groups []api.Group) [][3]int {
	var out [][3]int
	for _, g := range groups {
		out = append(out, [3]int{g.Epoch, g.Seq, len(g.Images)})
	}
	return out
}

// tells is that Groups answers these groups and that place.
func tells(t *testing.T, d *disk.Disk, l api.Layout, s api.Super, want []api.Group, place int) {
	t.Helper()
	got, at, err := scan.Groups(d, l, s)
	if err != api.OK || at != place || !sameGroups(got, want) {
		t.Fatalf("%v: %v, %d, %d; want %v, %d", s, names(got), at, err, names(want), place)
	}
}

// refuses is that Groups answers that error, and noughts beside it.
func refuses(t *testing.T, d *disk.Disk, l api.Layout, s api.Super, want api.Errno) {
	t.Helper()
	if got, at, err := scan.Groups(d, l, s); got != nil || at != 0 || err != want {
		t.Fatalf("%v, %v: %v, %d, %d; want %d", l, s, names(got), at, err, want)
	}
}

func newDisk(t *testing.T, blocks int) (*disk.Disk, api.Layout) {
	t.Helper()
	d, err := disk.New(blocks)
	l, err2 := layout.Of(blocks)
	if err != api.OK || err2 != api.OK {
		t.Fatal(err, err2)
	}
	return d, l
}

func load(t *testing.T, image []byte) *disk.Disk {
	t.Helper()
	d, err := disk.Load(image)
	if err != api.OK {
		t.Fatal(err)
	}
	return d
}

// group is one of n images, unlike those of another epoch or number.
func group(epoch, seq, n int) api.Group {
	g := api.Group{Epoch: epoch, Seq: seq}
	for i := range n {
		data := make([]byte, 4096)
		for at := range data {
			data[at] = byte(at*7 + at/256 + i*31 + seq*101 + epoch*59 + 1)
		}
		g.Images = append(g.Images, api.Image{Block: (seq*5 + i*3 + epoch + 30) % 512, Data: data})
	}
	return g
}

// row is groups of one epoch, of numbers from seq on, with so many images each.
func row(epoch, seq int, images ...int) []api.Group {
	var out []api.Group
	for i, n := range images {
		out = append(out, group(epoch, seq+i, n))
	}
	return out
}

func put(t *testing.T, g api.Group) [][]byte {
	t.Helper()
	blocks, err := record.Put(g)
	if err != api.OK {
		t.Fatal(g.Epoch, g.Seq, len(g.Images), err)
	}
	return blocks
}

// lay writes blocks into the ring from a place on; the place behind them is told.
func lay(t *testing.T, d *disk.Disk, l api.Layout, place int, blocks [][]byte) int {
	t.Helper()
	for _, b := range blocks {
		if err := d.Write(l.Log+place, b); err != api.OK {
			t.Fatal(err)
		}
		place = (place + 1) % l.LogBlocks
	}
	return place
}

// layAll writes groups behind one another; the places of all, and behind the last one that behind it, are told.
func layAll(t *testing.T, d *disk.Disk, l api.Layout, place int, groups []api.Group) []int {
	t.Helper()
	places := []int{place}
	for _, g := range groups {
		place = lay(t, d, l, place, put(t, g))
		places = append(places, place)
	}
	return places
}

// restamp gives each sector of blocks another stamp, of numbers that may be wrong.
func restamp(blocks [][]byte, epoch, seq uint64) {
	v := epoch<<40 + seq
	for _, b := range blocks {
		for sector := range 8 {
			for i := range 8 {
				b[sector*512+i] = byte(v >> (56 - 8*i))
			}
		}
	}
}
