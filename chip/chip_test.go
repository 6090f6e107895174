package chip

import (
	"strings"
	"testing"

	"tidegate/api"
)

// far: numbers of blocks that there are not.
var far = []int{-1 << 63, -2, -1, api.Blocks, api.Blocks + 1, 1<<63 - 1}

// is: is an error the one that it should be?
func is(t *testing.T, what string, got, want error) {
	t.Helper()
	if got != want {
		t.Errorf("%s: %v, not %v", what, got, want)
	}
}

// reads: is what a page has data, and bytes 0 behind?
func reads(t *testing.T, c *Chip, b, p int, data string) {
	t.Helper()
	want := data + strings.Repeat("\x00", api.Page-len(data))
	if got, err := c.Read(b, p); got != want || err != nil {
		t.Errorf("page %d of block %d: %q %v, not %q", p, b, got, err, want)
	}
}

// fails: does reading a page answer that error, and nothing else?
func fails(t *testing.T, c *Chip, b, p int, want error) {
	t.Helper()
	if got, err := c.Read(b, p); got != "" || err != want {
		t.Errorf("page %d of block %d: %q %v, not %v", p, b, got, err, want)
	}
}

// looks: has a block that next page and wear, and is it bad?
func looks(t *testing.T, c *Chip, b, next, wear int, bad bool) {
	t.Helper()
	if c.Next(b) != next || c.Wear(b) != wear || c.Bad(b) != bad {
		t.Errorf("block %d: next %d, wear %d, bad %v; not %d, %d, %v", b, c.Next(b), c.Wear(b), c.Bad(b), next, wear, bad)
	}
}

// filled: a chip, a block of which has these pages.
func filled(t *testing.T, b int, pages ...string) *Chip {
	t.Helper()
	c := New()
	for _, s := range pages {
		is(t, "write", c.Write(b, s), nil)
	}
	return c
}

// full: the pages of a block that has no blank one.
func full() []string { return strings.Split("abcdefgh", "")[:api.Pages] }

func TestNew(t *testing.T) { // B1
	c := New()
	if c.Down() {
		t.Error("a new chip is down")
	}
	for b := range api.Blocks {
		looks(t, c, b, 0, 0, false)
		for p := range api.Pages {
			fails(t, c, b, p, api.ErrNone)
		}
	}
	is(t, "another chip", c.Write(3, "x"), nil)
	looks(t, New(), 3, 0, 0, false)
}

func TestStepsGoWellUnlessArmed(t *testing.T) { // B1, B2
	c := New()
	for range 100 {
		is(t, "erase", c.Erase(2), nil)
	}
	looks(t, c, 2, 0, 100, false)
}

func TestWeakenBounds(t *testing.T) { // B1
	c := New()
	for _, b := range append([]int{0, api.Fixed - 1}, far...) {
		is(t, "weaken", c.Weaken(b), api.ErrBound)
	}
	for b := range api.Fixed {
		is(t, "the fixed ones never go bad", c.Write(b, "x"), nil)
	}
	for b := api.Fixed; b < api.Blocks; b++ {
		is(t, "weaken", c.Weaken(b), nil)
		looks(t, c, b, 0, 0, false)
	}
}

func TestWeakenedGoesBadWhenWritten(t *testing.T) { // B1, B3
	c := filled(t, 3, "hay")
	is(t, "weaken", c.Weaken(3), nil)
	is(t, "write beside it", c.Write(4, "x"), nil)
	looks(t, c, 3, 1, 0, false)
	is(t, "write", c.Write(3, "oats"), api.ErrBad)
	looks(t, c, 3, 1, 0, true)
	reads(t, c, 3, 0, "hay")
	fails(t, c, 3, 1, api.ErrNone)
	looks(t, c, 4, 1, 0, false)
}

func TestWeakenedGoesBadWhenErased(t *testing.T) { // B1, B3
	c := filled(t, 3, "hay")
	is(t, "weaken", c.Weaken(3), nil)
	is(t, "weaken twice", c.Weaken(3), nil)
	is(t, "erase", c.Erase(3), api.ErrBad)
	looks(t, c, 3, 1, 0, true)
	reads(t, c, 3, 0, "hay")
}

func TestBadForGood(t *testing.T) { // B1, B2, B5
	c := filled(t, 3, "hay")
	c.Weaken(3)
	c.Erase(3)
	for range 2 {
		is(t, "write", c.Write(3, "x"), api.ErrBad)
		is(t, "erase", c.Erase(3), api.ErrBad)
		is(t, "weaken", c.Weaken(3), nil)
		c.Restart(2)
		looks(t, c, 3, 1, 0, true)
		reads(t, c, 3, 0, "hay")
	}
}

// What is refused for another reason would not have been written: the block stays as it is.
func TestWeakenedStaysWhileRefused(t *testing.T) { // B1, B3
	c := filled(t, 3, full()...)
	c.Weaken(3)
	is(t, "too many bytes", c.Write(3, strings.Repeat("x", api.Page+1)), api.ErrMany)
	is(t, "no page", c.Write(3, "x"), api.ErrState)
	looks(t, c, 3, api.Pages, 0, false)
	c.Arm(0)
	is(t, "fall", c.Write(4, "x"), api.ErrDown)
	is(t, "down", c.Erase(3), api.ErrDown)
	c.Restart(0)
	looks(t, c, 3, api.Pages, 0, false)
	is(t, "erase", c.Erase(3), api.ErrBad)
	looks(t, c, 3, api.Pages, 0, true)
}

// The step in which it fell began ahead of the weakening: it is the next one that goes bad.
func TestWeakenWhileDown(t *testing.T) { // B1, B5
	c := New()
	c.Arm(0)
	is(t, "fall", c.Write(3, "hay"), api.ErrDown)
	is(t, "weaken", c.Weaken(3), nil)
	is(t, "weaken", c.Weaken(1), api.ErrBound)
	c.Restart(2)
	reads(t, c, 3, 0, "hay")
	looks(t, c, 3, 1, 0, false)
	is(t, "write", c.Write(3, "x"), api.ErrBad)
	looks(t, c, 3, 1, 0, true)
	c.Arm(0)
	is(t, "fall", c.Erase(4), api.ErrDown)
	is(t, "weaken", c.Weaken(4), nil)
	c.Restart(2)
	looks(t, c, 4, 0, 1, false)
	is(t, "erase", c.Erase(4), api.ErrBad)
	looks(t, c, 4, 0, 1, true)
}

func TestArm(t *testing.T) { // B2
	for n := range 5 {
		c := New()
		c.Arm(n)
		for i := range n {
			is(t, "a step that goes well", c.Write(3+i, "x"), nil)
			if c.Down() {
				t.Errorf("armed by %d it is down behind %d", n, i+1)
			}
		}
		is(t, "the step in which it falls", c.Erase(3), api.ErrDown)
		if !c.Down() {
			t.Errorf("armed by %d it isn't down", n)
		}
		c.Restart(0)
		looks(t, c, 3, min(n, 1), 0, false)
	}
}

func TestArmAnew(t *testing.T) { // B2
	for _, n := range []int{-1, -2, -1 << 63} {
		c := New()
		c.Arm(0)
		c.Arm(n)
		for range 20 {
			is(t, "all go well", c.Erase(3), nil)
		}
	}
	c := New()
	c.Arm(3)
	is(t, "write", c.Write(3, "x"), nil)
	c.Arm(1)
	is(t, "write", c.Write(3, "x"), nil)
	is(t, "write", c.Write(3, "x"), api.ErrDown)
	c.Arm(-1)
	is(t, "arming doesn't lift it", c.Write(3, "x"), api.ErrDown)
	if !c.Down() {
		t.Error("it isn't down")
	}
}

// A call that is refused is no step: the machine doesn't fall in it, and none is counted.
func TestRefusedIsNoStep(t *testing.T) { // B2, B3
	c := filled(t, 3, full()...)
	c.Weaken(4)
	c.Weaken(5)
	c.Write(5, "x")
	c.Arm(0)
	is(t, "no block", c.Write(-1, "x"), api.ErrBound)
	is(t, "no block", c.Erase(api.Blocks), api.ErrBound)
	is(t, "bad", c.Write(5, "x"), api.ErrBad)
	is(t, "too many bytes", c.Write(2, strings.Repeat("x", api.Page+1)), api.ErrMany)
	is(t, "no page", c.Write(3, "x"), api.ErrState)
	is(t, "weakened", c.Erase(4), api.ErrBad)
	fails(t, c, 2, 0, api.ErrNone)
	if c.Down() {
		t.Error("it is down")
	}
	is(t, "a step", c.Write(2, "x"), api.ErrDown)
}

func TestErrorsInOrder(t *testing.T) { // B2, B3, Z3
	long := strings.Repeat("x", api.Page+1)
	c := filled(t, 3, full()...)
	for _, b := range far {
		is(t, "no block ahead of many", c.Write(b, long), api.ErrBound)
		is(t, "no block", c.Erase(b), api.ErrBound)
	}
	is(t, "many ahead of no page", c.Write(3, long), api.ErrMany)
	c.Weaken(3)
	is(t, "many ahead of weakened", c.Write(3, long), api.ErrMany)
	is(t, "no page ahead of weakened", c.Write(3, "x"), api.ErrState)
	c.Erase(3)
	is(t, "bad ahead of many", c.Write(3, long), api.ErrBad)
	is(t, "bad ahead of no page", c.Write(3, "x"), api.ErrBad)
	c.Arm(0)
	c.Erase(2)
	for _, b := range append([]int{2, 3}, far...) {
		is(t, "down ahead of all", c.Write(b, long), api.ErrDown)
		is(t, "down ahead of all", c.Erase(b), api.ErrDown)
	}
}

func TestWrite(t *testing.T) { // B3, B4, W5
	c := New()
	pages := []string{"hay", "", "\x00", strings.Repeat("z", api.Page), strings.Repeat("y", api.Page-1), "\xff\x00x", "g", "h"}
	for i, s := range pages {
		looks(t, c, 3, i, 0, false)
		fails(t, c, 3, i, api.ErrNone)
		is(t, "write", c.Write(3, s), nil)
		for p := range i + 1 {
			reads(t, c, 3, p, pages[p])
		}
	}
	looks(t, c, 3, api.Pages, 0, false)
	is(t, "no page is blank", c.Write(3, "x"), api.ErrState)
	for p, s := range pages {
		reads(t, c, 3, p, s)
	}
	for b := range api.Blocks {
		if b != 3 {
			looks(t, c, b, 0, 0, false)
			fails(t, c, b, 0, api.ErrNone)
		}
	}
}

func TestWriteTooMuch(t *testing.T) { // B3
	c := New()
	for _, n := range []int{api.Page + 1, 2 * api.Page, 1000} {
		is(t, "too many bytes", c.Write(3, strings.Repeat("x", n)), api.ErrMany)
	}
	looks(t, c, 3, 0, 0, false)
	fails(t, c, 3, 0, api.ErrNone)
}

func TestWriteToAllBlocks(t *testing.T) { // B1, B3
	c := New()
	for b := range api.Blocks {
		is(t, "write", c.Write(b, string(rune('a'+b))), nil)
	}
	for b := range api.Blocks {
		looks(t, c, b, 1, 0, false)
		reads(t, c, b, 0, string(rune('a'+b)))
	}
}

func TestErase(t *testing.T) { // B1, B3
	for _, pages := range [][]string{nil, {"a"}, full()} {
		c := filled(t, 3, pages...)
		is(t, "write beside it", c.Write(2, "hay"), nil)
		is(t, "erase", c.Erase(3), nil)
		looks(t, c, 3, 0, 1, false)
		for p := range api.Pages {
			fails(t, c, 3, p, api.ErrNone)
		}
		is(t, "write anew", c.Write(3, "x"), nil)
		reads(t, c, 3, 0, "x")
		is(t, "erase", c.Erase(3), nil)
		looks(t, c, 3, 0, 2, false)
		looks(t, c, 2, 1, 0, false)
		reads(t, c, 2, 0, "hay")
	}
}

func TestRead(t *testing.T) { // B4
	c := filled(t, 3, "hay")
	for _, b := range far {
		fails(t, c, b, 0, api.ErrBound)
		fails(t, c, b, -1, api.ErrBound)
	}
	for _, p := range []int{-1 << 63, -1, api.Pages, 1<<63 - 1} {
		fails(t, c, 3, p, api.ErrBound)
	}
	reads(t, c, 3, 0, "hay")
	fails(t, c, 3, 1, api.ErrNone)
	fails(t, c, 3, api.Pages-1, api.ErrNone)
	c.Arm(0)
	reads(t, c, 3, 0, "hay")
	c.Write(3, "x")
	fails(t, c, 3, 0, api.ErrDown)
	fails(t, c, 3, 1, api.ErrDown)
	fails(t, c, -1, -1, api.ErrDown)
}

func TestAskedWhileDown(t *testing.T) { // B1, B2
	c := filled(t, 3, "hay")
	c.Arm(0)
	is(t, "fall", c.Erase(3), api.ErrDown)
	looks(t, c, 3, 1, 0, false)
	is(t, "fallen", c.Write(4, "x"), api.ErrDown)
	looks(t, c, 4, 0, 0, false)
}

func TestRestartOfWrite(t *testing.T) { // B5
	for _, how := range []int{-1 << 63, -1, 0, 1, 2, 3, 1<<63 - 1} {
		c := filled(t, 3, "hay")
		c.Arm(0)
		is(t, "fall", c.Write(3, "oats"), api.ErrDown)
		c.Restart(how)
		if c.Down() {
			t.Errorf("restarted by %d it is down", how)
		}
		reads(t, c, 3, 0, "hay")
		next := 2
		switch how {
		case 2:
			reads(t, c, 3, 1, "oats")
		case 1:
			fails(t, c, 3, 1, api.ErrText)
		default:
			fails(t, c, 3, 1, api.ErrNone)
			next = 1
		}
		looks(t, c, 3, next, 0, false)
		is(t, "it goes on", c.Write(3, "more"), nil)
		reads(t, c, 3, next, "more")
		looks(t, c, 4, 0, 0, false)
	}
}

func TestRestartOfErase(t *testing.T) { // B5
	for _, how := range []int{-1, 0, 1, 2, 3} {
		c := filled(t, 3, "hay", "oats")
		c.Arm(0)
		is(t, "fall", c.Erase(3), api.ErrDown)
		c.Restart(how)
		switch how {
		case 2:
			looks(t, c, 3, 0, 1, false)
			fails(t, c, 3, 0, api.ErrNone)
		case 1:
			looks(t, c, 3, api.Pages, 1, false)
			for p := range api.Pages {
				fails(t, c, 3, p, api.ErrText)
			}
		default:
			looks(t, c, 3, 2, 0, false)
			reads(t, c, 3, 0, "hay")
			reads(t, c, 3, 1, "oats")
			fails(t, c, 3, 2, api.ErrNone)
		}
		looks(t, c, 4, 0, 0, false)
		fails(t, c, 4, 0, api.ErrNone)
	}
}

func TestTornIsErased(t *testing.T) { // B3, B5
	c := filled(t, 3, "hay")
	c.Arm(0)
	c.Erase(3)
	c.Restart(1)
	is(t, "no page is blank", c.Write(3, "x"), api.ErrState)
	is(t, "erase", c.Erase(3), nil)
	looks(t, c, 3, 0, 2, false)
	for p := range api.Pages {
		fails(t, c, 3, p, api.ErrNone)
	}
	is(t, "write", c.Write(3, "x"), nil)
	reads(t, c, 3, 0, "x")
}

func TestTornLastPage(t *testing.T) { // B5
	c := filled(t, 3, full()[1:]...)
	c.Arm(0)
	is(t, "fall", c.Write(3, "x"), api.ErrDown)
	c.Restart(1)
	looks(t, c, 3, api.Pages, 0, false)
	fails(t, c, 3, api.Pages-1, api.ErrText)
	is(t, "no page is blank", c.Write(3, "x"), api.ErrState)
}

func TestRestartOfWhatIsNotDown(t *testing.T) { // B5
	for how := range 3 {
		c := filled(t, 3, "hay")
		c.Arm(0)
		c.Restart(how)
		is(t, "it isn't armed", c.Write(3, "x"), nil)
		looks(t, c, 3, 2, 0, false)
	}
}

func TestRestartUnarms(t *testing.T) { // B5
	c := New()
	c.Arm(0)
	c.Write(3, "x")
	c.Arm(0)
	c.Restart(0)
	is(t, "armed while it was down", c.Write(3, "x"), nil)
	is(t, "unarmed", c.Write(3, "x"), nil)
}

func TestRestartTwice(t *testing.T) { // B5
	for how := range 3 {
		for again := range 3 {
			c := New()
			c.Arm(0)
			c.Erase(3)
			c.Restart(how)
			next, wear := c.Next(3), c.Wear(3)
			c.Restart(again)
			looks(t, c, 3, next, wear, false)
		}
	}
}

// The step in which it fell last is the one that counts.
func TestFallTwice(t *testing.T) { // B2, B5
	c := New()
	c.Arm(0)
	c.Write(3, "hay")
	c.Restart(0)
	c.Arm(0)
	c.Write(4, "oats")
	is(t, "refused while down", c.Write(5, "x"), api.ErrDown)
	c.Restart(2)
	looks(t, c, 3, 0, 0, false)
	looks(t, c, 5, 0, 0, false)
	reads(t, c, 4, 0, "oats")
}

func TestBlocksThatThereAreNot(t *testing.T) { // Z1
	c := New()
	for _, b := range far {
		looks(t, c, b, 0, 0, false)
	}
}
