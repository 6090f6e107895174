package survey

import (
	"fmt"
	"math"
	"math/rand"
	"slices"
	"strings"
	"testing"

	"tidegate/api"
	"tidegate/chip"
	"tidegate/store"
)

// ok: an error is none.
func ok(t *testing.T, err error) {
	t.Helper()
	if err != nil {
		t.Fatal(err)
	}
}

// made: a store on a new chip.
func made(t *testing.T) (*chip.Chip, *store.Store) {
	t.Helper()
	c := chip.New()
	ok(t, store.Format(c))
	s, err := store.Open(c)
	ok(t, err)
	return c, s
}

// write rows, each a batch.
func write(t *testing.T, s *store.Store, keys ...string) {
	t.Helper()
	for _, k := range keys {
		ok(t, s.Write([]api.Entry{{Key: k, Val: "x"}}))
	}
}

// letters of kinds, a block each.
func letters(k [api.Blocks]int) string {
	var s strings.Builder
	for _, kind := range k {
		s.WriteByte(".hLNOB"[kind])
	}
	return s.String()
}

// wants the kinds of all blocks to be these.
func wants(t *testing.T, c *chip.Chip, s *store.Store, want string) {
	t.Helper()
	if got := letters(Of(c, s)); got != want {
		t.Errorf("%s, not %s", got, want)
	}
}

// wreck a block: it is weakened, and goes bad as it would be erased; what it has stays.
func wreck(t *testing.T, c *chip.Chip, blocks ...int) {
	t.Helper()
	for _, b := range blocks {
		ok(t, c.Weaken(b))
		if err := c.Erase(b); err != api.ErrBad || !c.Bad(b) {
			t.Fatalf("block %d: %v", b, err)
		}
	}
}

func TestOf(t *testing.T) { // K1
	c, s := made(t)
	wants(t, c, s, "hhL.....................")
	write(t, s, "a")
	wants(t, c, s, "hhL.....................")
	ok(t, s.Flush()) // a table in block 3, the log in block 4
	wants(t, c, s, "hh.NL...................")
	write(t, s, "b")
	ok(t, s.Flush())
	wants(t, c, s, "hh.N.NL.................")
	write(t, s, "c")
	ok(t, s.Flush()) // the third one: they are put together
	wants(t, c, s, "hh......LO..............")
	write(t, s, "d")
	ok(t, s.Flush())
	wants(t, c, s, "hh.......ONL............")
	again, err := store.Open(c)
	ok(t, err)
	wants(t, c, again, "hh.......ONL............")
}

func TestOfManyTables(t *testing.T) { // K1
	c, s := made(t)
	for i := range api.MaxKeys {
		write(t, s, fmt.Sprintf("k%02d", i))
	}
	ok(t, s.Flush())
	ok(t, s.Compact())
	k := Of(c, s)
	if Count(k, api.Old) != 3 || Count(k, api.New) != 0 || Count(k, api.Log) != 1 || Count(k, api.Head) != api.Fixed || Count(k, api.Free) != api.Blocks-6 {
		t.Errorf("40 rows: %s", letters(k))
	}
}

func TestOfBadBlocks(t *testing.T) { // K1
	c, s := made(t)
	ok(t, c.Weaken(2)) // the log
	ok(t, c.Weaken(3)) // the one that is used next
	ok(t, c.Weaken(23))
	wants(t, c, s, "hhL.....................") // none of them is bad yet
	write(t, s, "a")                           // the log goes bad: what is at hand, nothing, is laid, and block 3 goes bad
	wants(t, c, s, "hhBBL...................")
	wreck(t, c, 23, 9)
	wants(t, c, s, "hhBBL....B.............B")
}

// A block that is bad, and used still, is told as what it is used for.
func TestOfUsedBadBlocks(t *testing.T) { // K1
	c, s := made(t)
	for _, k := range []string{"a", "b", "c", "d"} {
		write(t, s, k)
		ok(t, s.Flush())
	}
	wants(t, c, s, "hh.......ONL............")
	for b := api.Fixed; b < api.Blocks; b++ {
		wreck(t, c, b)
	}
	wants(t, c, s, "hhBBBBBBBONLBBBBBBBBBBBB")
	if err := s.Write([]api.Entry{{Key: "e", Val: "x"}}); err != api.ErrFull {
		t.Errorf("no block is left: %v", err)
	}
	wants(t, c, s, "hhBBBBBBBONLBBBBBBBBBBBB")
}

// Of a block what it is used for is what the manifest says, and, where that says nothing, the chip.
func TestOfAgainstTheManifest(t *testing.T) { // K1, W4
	r := rand.New(rand.NewSource(11))
	for range 30 {
		c, s := made(t)
		for range 60 {
			err := s.Write([]api.Entry{{Key: fmt.Sprintf("k%d", r.Intn(38)), Val: "x"}})
			if err == nil && r.Intn(6) == 0 {
				err = s.Flush()
			}
			if err == nil && r.Intn(9) == 0 {
				err = s.Compact()
			}
			if err != nil && err != api.ErrFull {
				t.Fatal(err)
			}
			if r.Intn(8) == 0 {
				ok(t, c.Weaken(api.Fixed+r.Intn(api.Blocks-api.Fixed)))
			}
			m := s.Manifest()
			for b, kind := range Of(c, s) {
				want := api.Free
				switch {
				case b < api.Fixed:
					want = api.Head
				case b == m.Log:
					want = api.Log
				case slices.Contains(m.New, b):
					want = api.New
				case slices.Contains(m.Old, b):
					want = api.Old
				case c.Bad(b):
					want = api.Bad
				}
				if kind != want {
					t.Fatalf("block %d of %v is %d, not %d", b, m, kind, want)
				}
			}
		}
	}
}

func TestCount(t *testing.T) { // K1
	var k [api.Blocks]int
	if Count(k, api.Free) != api.Blocks || Count(k, api.Head) != 0 {
		t.Error("all are free")
	}
	for b := range k {
		k[b] = b % 6
	}
	for kind := api.Free; kind <= api.Bad; kind++ {
		if n := Count(k, kind); n != 4 {
			t.Errorf("kind %d: %d", kind, n)
		}
	}
	k = [api.Blocks]int{0: 7, 5: -1, 23: 7, 22: math.MinInt}
	for kind, want := range map[int]int{api.Free: 20, api.Head: 0, api.Bad: 0, 7: 2, -1: 1, 6: 0, -2: 0, math.MaxInt: 0, math.MinInt: 1} {
		if n := Count(k, kind); n != want {
			t.Errorf("kind %d: %d, not %d", kind, n, want)
		}
	}
}

// Each block is of one kind.
func TestCountsOfAStore(t *testing.T) { // K1
	c, s := made(t)
	write(t, s, "a", "b")
	ok(t, s.Flush())
	wreck(t, c, 10, 20)
	var got []int
	all := 0
	for kind := api.Free; kind <= api.Bad; kind++ {
		n := Count(Of(c, s), kind)
		got, all = append(got, n), all+n
	}
	if all != api.Blocks || !slices.Equal(got, []int{18, 2, 1, 1, 0, 2}) {
		t.Errorf("%v, %d in all", got, all)
	}
}

// wear a block: it is erased so often.
func wear(t *testing.T, c *chip.Chip, b, often int) {
	t.Helper()
	for range often {
		ok(t, c.Erase(b))
	}
}

func wantsSpread(t *testing.T, c *chip.Chip, least, most int) {
	t.Helper()
	if l, m := Spread(c); l != least || m != most {
		t.Errorf("spread: %d %d, not %d %d", l, m, least, most)
	}
}

func TestSpread(t *testing.T) { // K1
	c := chip.New()
	wantsSpread(t, c, 0, 0)
	wear(t, c, 0, 5) // the first ones don't count
	wear(t, c, 1, 9)
	wantsSpread(t, c, 0, 0)
	wear(t, c, 2, 1)
	wantsSpread(t, c, 0, 1)
	for b := api.Fixed; b < api.Blocks; b++ {
		wear(t, c, b, 3)
	}
	wantsSpread(t, c, 3, 4)
	wear(t, c, 23, 2)
	wantsSpread(t, c, 3, 5)
	ok(t, c.Weaken(23)) // it isn't bad yet
	wantsSpread(t, c, 3, 5)
	wreck(t, c, 23)
	wantsSpread(t, c, 3, 4)
	wreck(t, c, 2)
	wantsSpread(t, c, 3, 3)
	wear(t, c, 22, 1)
	for b := 3; b < 22; b++ {
		wreck(t, c, b)
	}
	wantsSpread(t, c, 4, 4) // one is left
	wreck(t, c, 22)
	wantsSpread(t, c, 0, 0)
}

func TestSpreadOfTheLeast(t *testing.T) { // K1
	for least := api.Fixed; least < api.Blocks; least++ {
		c := chip.New()
		for b := range api.Blocks {
			if b != least {
				wear(t, c, b, 2)
			}
		}
		wantsSpread(t, c, 0, 2)
		wear(t, c, least, 1)
		wantsSpread(t, c, 1, 2)
		wear(t, c, least, 2)
		wantsSpread(t, c, 2, 3)
		wreck(t, c, least)
		wantsSpread(t, c, 2, 2)
	}
}

func TestTheMachineIsDown(t *testing.T) { // K1, Z1
	c, s := made(t)
	write(t, s, "a")
	c.Arm(0)
	if err := s.Flush(); err != api.ErrDown {
		t.Fatal(err)
	}
	_ = Of(c, s)
	wantsSpread(t, c, 0, 1)
	c.Restart(2) // the block that was to be erased is
	s, err := store.Open(c)
	ok(t, err)
	wants(t, c, s, "hhL.....................")
	wantsSpread(t, c, 0, 1)
}
