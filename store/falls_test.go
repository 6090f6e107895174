package store

import (
	"fmt"
	"math/rand"
	"slices"
	"testing"

	"tidegate/api"
	"tidegate/chip"
	"tidegate/manifest"
)

// deed: something that is done, and what becomes of rows by it.
type deed struct {
	what string
	do   func(c *chip.Chip, s *Store) error
	then func(rows string) string
}

func same(rows string) string { return rows }

// deeds of all kinds, but Format; a write is of these changes.
func deeds(l []api.Entry) []deed {
	return []deed{
		{"write " + text(l), func(_ *chip.Chip, s *Store) error { return s.Write(l) }, func(rows string) string { return after(rows, l) }},
		{"flush", func(_ *chip.Chip, s *Store) error { return s.Flush() }, same},
		{"compact", func(_ *chip.Chip, s *Store) error { return s.Compact() }, same},
	}
}

var format = deed{"format", func(c *chip.Chip, _ *Store) error { return Format(c) }, func(string) string { return "" }}

// fallsAnywhere: a deed falls at any step, done, half or not. Behind it all is as it was, or as it would have become, and it goes on. How many steps it has.
func fallsAnywhere(t *testing.T, was *chip.Chip, d deed) int {
	t.Helper()
	before := told(t, opened(t, was))
	for steps := 0; ; steps++ {
		for how := range 3 {
			c := twin(was)
			s := opened(t, c)
			c.Arm(steps)
			err := d.do(c, s)
			if err == nil {
				c.Arm(-1)
				wants(t, opened(t, c), d.then(before))
				if d.what != format.what {
					sound(t, c, s)
				}
				return steps
			}
			if err != api.ErrDown {
				t.Fatalf("%s: %v", d.what, err)
			}
			c.Restart(how)
			s = opened(t, c)
			now := told(t, s)
			if now != before && now != d.then(before) {
				t.Fatalf("%s, a fall behind %d steps, %d: %s is neither %s nor %s", d.what, steps, how, now, before, d.then(before))
			}
			sound(t, c, s)
			goesOn(t, c, now)
		}
	}
}

// goesOn: behind a fall a store is written to, laid, put together and formatted.
func goesOn(t *testing.T, c *chip.Chip, now string) {
	t.Helper()
	s := opened(t, c)
	for i, b := range []string{"k1=on k2", "k3 k1=x", "k5"} {
		if s.Check(rows(b)) == nil {
			write(t, s, b)
			now = after(now, rows(b))
		}
		if i == 1 {
			ok(t, s.Flush())
		}
	}
	ok(t, s.Compact())
	if got := told(t, s); got != now {
		t.Fatalf("it goes on: %s, not %s", got, now)
	}
	sound(t, c, s)
	ok(t, Format(c))
	if got := told(t, opened(t, c)); got != "" {
		t.Fatalf("it is formatted: %s", got)
	}
}

func TestFallsAtAnyStep(t *testing.T) { // H5, W2
	r := rand.New(rand.NewSource(5))
	longest := 0
	for range 2 {
		c, s := made(t)
		for range 40 {
			l := anyBatch(r)
			if s.Check(l) != nil {
				l = rows("k1 k2")
			}
			for _, d := range deeds(l) {
				longest = max(longest, fallsAnywhere(t, c, d))
			}
			fallsAnywhere(t, c, format)
			ok(t, s.Write(l))
			if r.Intn(6) == 0 {
				ok(t, s.Flush())
			}
		}
	}
	if longest < 20 {
		t.Errorf("%d steps at most: no deed puts tables together", longest)
	}
}

func TestFallsWhereBlocksGoBad(t *testing.T) { // H5, W1, W2
	r := rand.New(rand.NewSource(6))
	for range 4 {
		c, s := made(t)
		for range 12 {
			for range 1 + r.Intn(6) {
				l := anyBatch(r)
				if s.Check(l) == nil {
					ok(t, s.Write(l))
				}
			}
			d := twin(c)
			for range 4 {
				_ = d.Weaken(api.Fixed + r.Intn(api.Blocks-api.Fixed))
			}
			_ = d.Weaken(s.Manifest().Log)
			for _, x := range append(deeds(rows("k1=1 k2")), format) {
				if x.what == "format" || s.Check(rows("k1=1 k2")) == nil {
					fallsAnywhere(t, d, x)
				}
			}
		}
	}
}

func TestFallsWhereTheLogIsFull(t *testing.T) { // H3, H5
	// A write that lays what is at hand, and puts tables together behind it, or ahead of it.
	for tables := range 6 {
		c, s := made(t)
		write(t, s, many(0, 30)...)
		ok(t, s.Flush())
		for i := range tables {
			write(t, s, fmt.Sprintf("z%d=1 k0%d", i, i))
			ok(t, s.layHand()) // not put together
		}
		for i := range api.Pages {
			write(t, s, fmt.Sprintf("k0%d y%d=1", i, i))
		}
		if n := len(s.Manifest().New); n != tables {
			t.Fatal(s.Manifest())
		}
		steps := fallsAnywhere(t, c, deeds(rows("x=1 k20"))[0])
		if least := 10 + 20*min(tables/2, 1); steps < least {
			t.Errorf("%d tables: %d steps", tables, steps)
		}
		fallsAnywhere(t, c, format)
	}
}

func TestFallsOfTheFirstFormat(t *testing.T) { // H1, H5
	r := rand.New(rand.NewSource(7))
	for run := range 60 {
		was := chip.New()
		if run > 0 {
			was = litter(t, r)
		}
		for steps := 0; ; steps++ {
			fell := false
			for how := range 3 {
				c := twin(was)
				c.Arm(steps)
				err := Format(c)
				fell = err == api.ErrDown
				c.Restart(how)
				if s, err := Open(c); err == nil {
					wants(t, s, "")
				} else if s != nil || err != api.ErrText || !fell {
					t.Fatalf("a fall behind %d steps, %d: %v %v", steps, how, s, err)
				}
				ok(t, Format(c))
				goesOn(t, c, "")
			}
			if !fell {
				break
			}
		}
	}
}

func TestFallsOfFormatWhereOnlyTheStoresBlocksAreLeft(t *testing.T) { // H1, H5
	for ahead := range 20 { // manifests that were noted
		was, s := made(t)
		write(t, s, many(0, 20)...)
		for i := range ahead {
			write(t, s, fmt.Sprintf("a%d=1", i))
			ok(t, s.Flush())
		}
		write(t, s, "z=1")
		m := s.Manifest()
		weakenAll(was, slices.Concat(m.New, m.Old, []int{m.Log})...)
		if _, err := claim(was, inUse(m), was.Erase); err != api.ErrFull {
			t.Fatal(err) // by now all others are bad
		}
		formatOverFalls(t, was, told(t, s))
	}
}

// formatOverFalls at any step. The store that was can't stay whole; but none is found that isn't.
func formatOverFalls(t *testing.T, was *chip.Chip, before string) {
	t.Helper()
	for steps := 0; ; steps++ {
		for how := range 3 {
			c := twin(was)
			c.Arm(steps)
			if Format(c) == nil {
				wants(t, opened(t, c), "")
				return
			}
			c.Restart(how)
			if s, err := Open(c); err == nil {
				if now := told(t, s); now != before && now != "" {
					t.Fatalf("a fall behind %d steps, %d: %s", steps, how, now)
				}
			} else if err != api.ErrText {
				t.Fatal(err)
			}
			ok(t, Format(c))
			wants(t, opened(t, c), "")
		}
	}
}

func TestFallsWhereEpochsBeginAnew(t *testing.T) { // H5
	for ahead := range 20 { // pages of the first blocks
		for at := range api.Fixed {
			c, s := made(t)
			write(t, s, "a=1")
			ok(t, s.Flush())
			ok(t, s.Compact())
			write(t, s, "b=1")
			ok(t, s.Flush())
			m := s.Manifest()
			ok(t, c.Erase(0))
			ok(t, c.Erase(1))
			b, err := at, error(nil)
			for i := range ahead + 1 {
				m.Epoch = api.MaxEpoch - ahead + i
				b, err = manifest.Note(c, b, m)
				ok(t, err)
			}
			write(t, opened(t, c), "c=1 a")
			for _, d := range append(deeds(rows("k1=1")), format) {
				fallsAnywhere(t, c, d)
			}
		}
	}
}

func TestFallsAgainAndAgain(t *testing.T) { // H5, W1, W2, W3
	r := rand.New(rand.NewSource(9))
	fell := 0
	for run := range 60 {
		c, s := made(t)
		now := ""
		for i := range 100 {
			if i%25 == 24 && run%2 == 0 {
				_ = c.Weaken(api.Fixed + r.Intn(api.Blocks-api.Fixed))
			}
			l := anyBatch(r)
			if s.Check(l) != nil {
				l = rows("k1 k2")
			}
			d := append(deeds(l), deeds(l)[0], deeds(l)[0])[r.Intn(5)]
			c.Arm(r.Intn(12))
			err := d.do(c, s)
			c.Restart(r.Intn(3))
			s = opened(t, c)
			got := told(t, s)
			if got != now && got != d.then(now) || err == nil && got != d.then(now) || err != nil && err != api.ErrDown {
				t.Fatalf("%s: %v: %s, behind %s", d.what, err, got, now)
			}
			if err != nil {
				fell++
			}
			now = got
			sound(t, c, s)
		}
		goesOn(t, c, now)
	}
	if fell < 1000 {
		t.Errorf("only %d falls", fell)
	}
}

func TestABatchIsThereAsAWhole(t *testing.T) { // H5, W2
	c, s := made(t)
	write(t, s, "a=1 b=1")
	l := rows("a b=2 c=2 d=2")
	for how, want := range []string{"a=1 b=1", "a=1 b=1", "b=2 c=2 d=2"} {
		x := twin(c)
		y := opened(t, x)
		x.Arm(0)
		if err := y.Write(l); err != api.ErrDown {
			t.Errorf("%v", err)
		}
		x.Restart(how)
		y = opened(t, x)
		wants(t, y, want)
		write(t, y, "e=3") // behind a page that may be torn
		wants(t, opened(t, x), want+" e=3")
	}
}

func TestWhatIsDoneBeneathIsNotSeen(t *testing.T) { // W1, W3
	for run := range 20 {
		r := rand.New(rand.NewSource(int64(run)))
		var stores []*Store
		var chips []*chip.Chip
		for range 5 {
			c, s := made(t)
			stores, chips = append(stores, s), append(chips, c)
		}
		now := ""
		for i := range 60 {
			l := anyBatch(r)
			want := stores[0].Check(l)
			if want == nil {
				now = after(now, l)
			}
			for n, s := range stores {
				beneath(t, r, chips[n], s, n, i)
				if err := s.Write(l); err != want {
					t.Fatalf("store %d: %v, not %v", n, err, want)
				}
				if got := told(t, s); got != now {
					t.Fatalf("store %d: %s, not %s", n, got, now)
				}
			}
		}
		for n, s := range stores {
			wants(t, s, now)
			sound(t, chips[n], s)
		}
	}
}

// beneath: what is done beneath, of each store another thing; of the first one nothing.
func beneath(t *testing.T, r *rand.Rand, c *chip.Chip, s *Store, n, i int) {
	t.Helper()
	switch n {
	case 1:
		ok(t, s.Flush())
	case 2:
		ok(t, s.Flush())
		ok(t, s.Compact())
	case 3:
		if i%10 == 0 {
			ok(t, c.Weaken(s.Manifest().Log))
		}
	case 4:
		if i%8 == 0 {
			_ = c.Weaken(api.Fixed + r.Intn(api.Blocks-api.Fixed))
		}
		if i%3 == 0 {
			ok(t, s.Compact())
		}
	}
}
