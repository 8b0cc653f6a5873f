package volume

import (
	"ledgerstone/api"
	"ledgerstone/disk"
	"ledgerstone/journal"
	"ledgerstone/layout"
	"ledgerstone/replay"
	"ledgerstone/scan"
	"ledgerstone/super"
)

// Format makes d a disk that Mount takes: its ring is empty, and of all else but data there are noughts.
func Format(d *disk.Disk) api.Errno {
	size := d.Size()
	if size == 0 { // no disk has as few
		return api.ErrNil
	}
	l, err := layout.Of(size)
	if err != api.OK {
		return err
	}
	first, err := super.PutSuper(api.Super{Blocks: size, Epoch: 1, Seq: 1})
	if err != api.OK {
		return err
	}
	noughts := make([]byte, api.Block)
	for n := 1; n < l.Data; n++ {
		if err := d.Write(n, noughts); err != api.OK {
			return err
		}
	}
	if err := d.Flush(); err != api.OK {
		return err
	}
	// The superblock comes last: by it all else is taken as formatted.
	if err := d.Write(0, first); err != api.OK {
		return err
	}
	return d.Flush()
}

// Mount is the volume of d, with all whole groups of its ring put to their places, in an epoch of its own.
func Mount(d *disk.Disk) (*Volume, api.Errno) {
	size := d.Size()
	if size == 0 { // no disk has as few
		return nil, api.ErrNil
	}
	l, err := layout.Of(size)
	if err != api.OK {
		return nil, api.ErrImage
	}
	f, err := find(d, l)
	if err != api.OK {
		return nil, err
	}
	if err := replay.Do(d, f.images, f.next, f.slot); err != api.OK {
		return nil, err
	}
	j, err := journal.Open(d, l, f.next.Epoch, f.next.Seq, f.next.Tail)
	if err != api.OK {
		return nil, err
	}
	v := &Volume{disk: d, layout: l, epoch: f.next.Epoch, journal: j, committed: make(map[int][]byte)}
	v.self = v
	return v, api.OK
}

// found is what Mount is to do with a disk.
type found struct {
	images []api.Image // what the groups make of the blocks
	next   api.Super   // the superblock by which these groups are let go
	slot   int         // where that goes
}

// find reads what d has, and writes nothing; api.ErrImage, if d is none of ours.
func find(d *disk.Disk, l api.Layout) (found, api.Errno) {
	first, second, err := supers(d)
	if err != api.OK {
		return found{}, err
	}
	s, slot, ok := replay.Choose(first, second)
	if !ok || !mayMount(l, s) {
		return found{}, api.ErrImage
	}
	groups, place, err := scan.Groups(d, l, s)
	if err != api.OK {
		return found{}, err
	}
	// The next number stands in the next superblock, where none may be greater.
	seq := s.Seq + len(groups)
	if seq > api.MaxSeq {
		return found{}, api.ErrImage
	}
	images, err := replay.Home(l, groups)
	if err != api.OK {
		return found{}, err
	}
	next := api.Super{Blocks: s.Blocks, Epoch: s.Epoch + 1, Seq: seq, Tail: place}
	return found{images: images, next: next, slot: 1 - slot}, api.OK
}

// mayMount is whether s may be the super of a disk of layout l on which one epoch more is to begin.
func mayMount(l api.Layout, s api.Super) bool {
	return s.Blocks == l.Blocks && s.Tail < l.LogBlocks && s.Epoch < api.MaxEpoch
}

// supers is the two blocks of d that are kept for superblocks.
func supers(d *disk.Disk) (first, second []byte, err api.Errno) {
	if first, err = d.Read(0); err != api.OK {
		return nil, nil, err
	}
	if second, err = d.Read(1); err != api.OK {
		return nil, nil, err
	}
	return first, second, api.OK
}
