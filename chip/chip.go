// Package chip: blocks of pages that are written once, one behind the other, till the block is erased.
package chip

import "tidegate/api"

// What a page is; a page of a new chip is blank.
const (
	blank = iota
	whole
	torn
)

// unarmed: below 0, so that all steps go well.
const unarmed = -1

type page struct {
	state int
	data  [api.Page]byte
}

type block struct {
	pages [api.Pages]page
	next  int // page that is written next: all behind it are blank, none ahead of it is
	wear  int
	weak  bool
	bad   bool
}

// Chip of blocks.
type Chip struct {
	blocks [api.Blocks]block
	left   int           // steps that go well ahead of the one in which the machine falls
	fell   func(how int) // what becomes of the step in which it fell; nil: it isn't down
}

// New chip: all is blank.
func New() *Chip { return &Chip{left: unarmed} }

// Down: is it?
func (c *Chip) Down() bool { return c.fell != nil }

// Arm: so many steps go well (below 0: all).
func (c *Chip) Arm(n int) { c.left = n }

// Weaken a block: the next time that it is written or erased it goes bad.
func (c *Chip) Weaken(b int) error {
	if b < api.Fixed || b >= api.Blocks {
		return api.ErrBound
	}
	c.blocks[b].weak = true
	return nil
}

// Bad: is a block?
func (c *Chip) Bad(b int) bool { return there(b) && c.blocks[b].bad }

// Wear: how often a block was erased.
func (c *Chip) Wear(b int) int {
	if !there(b) {
		return 0
	}
	return c.blocks[b].wear
}

// Next page of a block that is blank.
func (c *Chip) Next(b int) int {
	if !there(b) {
		return 0
	}
	return c.blocks[b].next
}

// Write the next page of a block.
func (c *Chip) Write(b int, data string) error {
	if err := c.ready(b); err != nil {
		return err
	}
	k := &c.blocks[b]
	if len(data) > api.Page {
		return api.ErrMany
	}
	if k.next == api.Pages {
		return api.ErrState
	}
	if k.gives() {
		return api.ErrBad
	}
	p := page{state: whole}
	copy(p.data[:], data)
	return c.step(
		func() { k.lay(p) },
		func() { k.lay(page{state: torn}) },
	)
}

// Erase a block: all is blank.
func (c *Chip) Erase(b int) error {
	if err := c.ready(b); err != nil {
		return err
	}
	k := &c.blocks[b]
	if k.gives() {
		return api.ErrBad
	}
	return c.step(
		func() { k.wipe(blank, 0) },
		func() { k.wipe(torn, api.Pages) },
	)
}

// Read a page of a block.
func (c *Chip) Read(b, p int) (string, error) {
	if c.Down() {
		return "", api.ErrDown
	}
	if !there(b) || p < 0 || p >= api.Pages {
		return "", api.ErrBound
	}
	at := &c.blocks[b].pages[p]
	switch at.state {
	case blank:
		return "", api.ErrNone
	case torn:
		return "", api.ErrText
	}
	return string(at.data[:]), nil
}

// Restart the machine: the step that it fell in isn't done (0), half (1), or done (2).
func (c *Chip) Restart(how int) {
	if c.fell != nil {
		c.fell(how)
	}
	c.fell, c.left = nil, unarmed
}

// there: is there such a block?
func there(b int) bool { return b >= 0 && b < api.Blocks }

// ready: what speaks against a step on a block, whatever it does.
func (c *Chip) ready(b int) error {
	if c.Down() {
		return api.ErrDown
	}
	if !there(b) {
		return api.ErrBound
	}
	if c.blocks[b].bad {
		return api.ErrBad
	}
	return nil
}

// step: it is done, or the machine falls in it; then Restart tells which of the two is carried out.
func (c *Chip) step(done, half func()) error {
	if c.left == 0 {
		c.fell = func(how int) {
			switch how {
			case 2:
				done()
			case 1:
				half()
			}
		}
		return api.ErrDown
	}
	if c.left > 0 {
		c.left--
	}
	done()
	return nil
}

// gives: a weakened block gives way, and is bad from now on.
func (k *block) gives() bool {
	if k.weak {
		k.bad = true
	}
	return k.weak
}

// lay a page where the next one is due.
func (k *block) lay(p page) {
	k.pages[k.next] = p
	k.next++
}

// wipe all pages: whether they are blank or torn hangs on how far the erasing came, and with it which is next.
func (k *block) wipe(state, next int) {
	for i := range k.pages {
		k.pages[i] = page{state: state}
	}
	k.next = next
	k.wear++
}
