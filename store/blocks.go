package store

import (
	"slices"

	"tidegate/api"
	"tidegate/chip"
	"tidegate/manifest"
	"tidegate/table"
)

// inUse: of each block whether a manifest names it. (That of none, a zero one, names a block that is never free.)
func inUse(m api.Manifest) *[api.Blocks]bool {
	var used [api.Blocks]bool
	for _, b := range slices.Concat([]int{m.Log}, m.New, m.Old) {
		used[b] = true
	}
	return &used
}

// free block of least wear; false: there is none.
func free(c *chip.Chip, used *[api.Blocks]bool) (int, bool) {
	least, is := 0, false
	for b := api.Fixed; b < api.Blocks; b++ {
		if used[b] || c.Bad(b) {
			continue
		}
		if !is || c.Wear(b) < c.Wear(least) {
			least, is = b, true
		}
	}
	return least, is
}

// claim a free block, that is made ready for its use; it is used from now on. One that goes bad meanwhile is passed over.
func claim(c *chip.Chip, used *[api.Blocks]bool, ready func(b int) error) (int, error) {
	for {
		b, is := free(c, used)
		if !is {
			return 0, api.ErrFull
		}
		used[b] = true
		err := ready(b)
		if err == nil {
			return b, nil
		}
		if err != api.ErrBad {
			return 0, err
		}
	}
}

// lay entries that rise in tables, of blocks that are free; which ones.
func lay(c *chip.Chip, used *[api.Blocks]bool, l []api.Entry) ([]int, error) {
	var laid []int
	for part := range slices.Chunk(l, table.Most) {
		b, err := claim(c, used, func(b int) error { return table.Write(c, b, part) })
		if err != nil {
			return nil, err
		}
		laid = append(laid, b)
	}
	return laid, nil
}

// noteFirst: a manifest of the first epoch, instead of all that there are, the newest one of which is in a block. In which it is then.
func noteFirst(c *chip.Chip, at int, m api.Manifest) (int, error) {
	other := 1 - at
	if err := c.Erase(other); err != nil {
		return 0, err
	}
	if _, err := manifest.Note(c, other, m); err != nil {
		return 0, err
	}
	// Till now the newest one of those that were may still be found: what it names is whole.
	if err := c.Erase(at); err != nil {
		return 0, err
	}
	return other, nil
}

// formatOver a store that has all blocks that are left: it is given up ahead of it, so that none is found whose blocks were erased.
func formatOver(c *chip.Chip, was api.Manifest, at int) error {
	if was.Epoch == 0 {
		return api.ErrFull // there is no store, so that no other blocks are left
	}
	// The newest manifest last: else an older one would be found behind a fall.
	for _, b := range []int{1 - at, at} {
		if err := c.Erase(b); err != nil {
			return err
		}
	}
	log, err := claim(c, inUse(api.Manifest{}), c.Erase)
	if err == api.ErrFull {
		// All blocks that it had went bad, but can be read: it is as it was.
		if _, err := manifest.Note(c, at, was); err != nil {
			return err
		}
		return api.ErrFull
	}
	if err != nil {
		return err
	}
	_, err = manifest.Note(c, at, api.Manifest{Epoch: 1, Log: log})
	return err
}
