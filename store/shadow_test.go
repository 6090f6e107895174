package store

import (
	"fmt"
	"math/rand"
	"slices"
	"testing"

	"tidegate/api"
	"tidegate/chip"
	"tidegate/table"
)

// shadow: what a store and its chip must be, worked out by the chapter's words, over plain lists.
type shadow struct {
	wear      [api.Blocks]int
	weak, bad [api.Blocks]bool
	log       int
	noted     []string // batches of the log
	young     []int
	old       []int
	tables    [api.Blocks]string
	hand      string // entries, those that are gone among them
	rows      string
}

// begun: a new chip that is formatted.
func begun() *shadow {
	h := &shadow{}
	h.log, _ = h.take(nil)
	return h
}

// take the free block of least wear, the first one of several; those that go bad are passed over.
func (h *shadow) take(taken []int) (int, bool) {
	for {
		best := -1
		for b := api.Fixed; b < api.Blocks; b++ {
			used := b == h.log || h.bad[b] || slices.Contains(h.young, b) || slices.Contains(h.old, b) || slices.Contains(taken, b)
			if !used && (best < 0 || h.wear[b] < h.wear[best]) {
				best = b
			}
		}
		if best < 0 {
			return 0, false
		}
		if !h.weak[best] {
			h.wear[best]++
			return best, true
		}
		h.bad[best] = true
	}
}

// lay entries in tables.
func (h *shadow) lay(l []api.Entry) ([]int, bool) {
	var blocks []int
	for len(l) > 0 {
		n := min(len(l), table.Most)
		b, is := h.take(blocks)
		if !is {
			return nil, false
		}
		h.tables[b] = text(l[:n])
		blocks, l = append(blocks, b), l[n:]
	}
	return blocks, true
}

func (h *shadow) compact() error {
	if len(h.young) == 0 {
		return nil
	}
	all := ""
	for _, b := range h.old {
		all = after(all, rows(h.tables[b]))
	}
	for _, b := range slices.Backward(h.young) {
		all = after(all, rows(h.tables[b]))
	}
	old, is := h.lay(rows(all))
	if !is {
		return api.ErrFull
	}
	h.young, h.old = nil, old
	return nil
}

func (h *shadow) flush() error {
	if len(h.young) >= api.Low && h.compact() != nil {
		return api.ErrFull
	}
	blocks, is := h.lay(rows(h.hand))
	if !is {
		return api.ErrFull
	}
	log, is := h.take(blocks)
	if !is {
		return api.ErrFull
	}
	h.log, h.noted, h.hand = log, nil, ""
	h.young = append(blocks, h.young...)
	if len(h.young) >= api.Low {
		return h.compact()
	}
	return nil
}

func (h *shadow) check(l []api.Entry) error {
	if len(rows(after(h.rows, l))) > api.MaxKeys {
		return api.ErrFull
	}
	return nil
}

func (h *shadow) write(l []api.Entry) error {
	if err := h.check(l); err != nil {
		return err
	}
	if len(h.noted) == api.Pages || h.weak[h.log] {
		if len(h.noted) < api.Pages {
			h.bad[h.log] = true
		}
		if err := h.flush(); err != nil {
			return err
		}
	}
	h.noted = append(h.noted, text(l))
	h.rows = after(h.rows, l)
	for _, e := range l {
		h.put(e)
	}
	return nil
}

// put an entry at hand, instead of one of its key.
func (h *shadow) put(e api.Entry) {
	l := slices.DeleteFunc(rows(h.hand), func(x api.Entry) bool { return x.Key == e.Key })
	l = append(l, e)
	slices.SortFunc(l, func(a, b api.Entry) int {
		if a.Key < b.Key {
			return -1
		}
		return 1
	})
	h.hand = text(l)
}

// holds a store, and its chip, against the shadow.
func (h *shadow) holds(t *testing.T, c *chip.Chip, s *Store) {
	t.Helper()
	wantsUses(t, s, fmt.Sprintf("%d %v %v", h.log, append([]int{}, h.young...), append([]int{}, h.old...)))
	if got := logOf(t, c, s); !slices.Equal(got, h.noted) {
		t.Errorf("the log has %q, not %q", got, h.noted)
	}
	for b := api.Fixed; b < api.Blocks; b++ {
		if c.Wear(b) != h.wear[b] || c.Bad(b) != h.bad[b] {
			t.Errorf("block %d: wear %d, bad %v, not %d, %v", b, c.Wear(b), c.Bad(b), h.wear[b], h.bad[b])
		}
	}
	for _, b := range slices.Concat(h.young, h.old) {
		if l, err := table.All(c, b); text(l) != h.tables[b] || err != nil {
			t.Errorf("table %d has %s %v, not %s", b, text(l), err, h.tables[b])
		}
	}
	if got := told(t, s); got != h.rows {
		t.Errorf("rows: %s, not %s", got, h.rows)
	}
}

// TestByTheWords: H1 to H4, W1, W3, W4: whatever is done, in any order, and whichever blocks go bad, also till none is left: all is as the words say.
func TestByTheWords(t *testing.T) {
	r := rand.New(rand.NewSource(3))
	full := 0
	for run := range 60 {
		c, s := made(t)
		h := begun()
		weaken := []int{1, 30, 60}[run%3]
		for range 120 {
			var got, want error
			switch n := r.Intn(100); {
			case n < 8:
				got, want = s.Flush(), h.flush()
			case n < 13:
				got, want = s.Compact(), h.compact()
			case n < 18:
				s = opened(t, c)
			case n < 18+weaken/2:
				b := api.Fixed + r.Intn(api.Blocks-api.Fixed)
				h.weak[b] = true
				got = c.Weaken(b)
			default:
				l := anyBatch(r)
				if got, want = s.Check(l), h.check(l); got == want {
					got, want = s.Write(l), h.write(l)
				}
			}
			if got != want {
				t.Fatalf("%v, not %v", got, want)
			}
			if got == api.ErrFull && len(rows(h.rows)) < api.MaxKeys-api.MaxBatch {
				full++
			}
			h.holds(t, c, s)
			sound(t, c, s)
			if t.Failed() {
				t.Fatalf("run %d", run)
			}
		}
	}
	if full < 10 {
		t.Errorf("only %d times no block was left", full)
	}
}
