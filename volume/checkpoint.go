package volume

import (
	"maps"
	"slices"

	"ledgerstone/api"
	"ledgerstone/replay"
)

// checkpoint puts all that was committed to its place, says so in a superblock, and lets all groups go; the first step that errs breaks v, and is the last one.
func (v *Volume) checkpoint() api.Errno {
	steps := []func() api.Errno{
		// The groups last ahead of the first block that is put to its place: till all of them are, it is by the groups that a crash is mended.
		func() api.Errno { return v.journal.Flush() },
		func() api.Errno {
			first, second, err := supers(v.disk)
			if err != api.OK {
				return err
			}
			// Which slot counts is asked each time: of two superblocks of the same number it is not the one that was written last.
			_, slot, _ := replay.Choose(first, second)
			return replay.Do(v.disk, v.images(), v.super(), 1-slot)
		},
		func() api.Errno {
			clear(v.committed)
			return v.journal.Release(v.journal.Synced())
		},
	}
	for _, step := range steps {
		if err := v.asked(step()); err != api.OK {
			return err
		}
	}
	return api.OK
}

// images is what was committed since the last checkpoint, by rising blocks.
func (v *Volume) images() []api.Image {
	var images []api.Image
	for _, block := range slices.Sorted(maps.Keys(v.committed)) {
		images = append(images, api.Image{Block: block, Data: v.committed[block]})
	}
	return images
}

// super is what a superblock says of a ring whose groups are all let go, the next one to lie behind the last one.
func (v *Volume) super() api.Super {
	r := v.journal.Ring()
	return api.Super{
		Blocks: v.layout.Blocks,
		Epoch:  v.epoch,
		Seq:    v.journal.Next(),
		Tail:   (r.Tail + r.Used) % r.Size,
	}
}
