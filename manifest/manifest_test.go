package manifest

import (
	"fmt"
	"math"
	"math/rand"
	"slices"
	"strings"
	"testing"

	"tidegate/api"
	"tidegate/chip"
)

// same: are two manifests? An empty list may be nil or not.
func same(a, b api.Manifest) bool {
	return a.Epoch == b.Epoch && a.Log == b.Log && slices.Equal(a.New, b.New) && slices.Equal(a.Old, b.Old)
}

// zero: has it its zero value?
func zero(m api.Manifest) bool { return same(m, api.Manifest{}) && len(m.New) == 0 && len(m.Old) == 0 }

// plain manifest of an epoch, of which it hangs what else it has.
func plain(epoch int) api.Manifest {
	m := api.Manifest{Epoch: epoch, Log: 2 + epoch%5}
	for i := range epoch % 3 {
		m.New = append(m.New, 7+(epoch+i)%8)
	}
	if epoch%2 == 0 {
		m.Old = []int{15 + epoch%9}
	}
	return m
}

// full: a manifest that names all blocks that there are.
func full() api.Manifest {
	m := api.Manifest{Epoch: api.MaxEpoch, Log: api.Fixed}
	for b := api.Fixed + 1; b < api.Blocks; b++ {
		if b%2 == 0 {
			m.New = append(m.New, b)
		} else {
			m.Old = append(m.Old, b)
		}
	}
	return m
}

// raw bytes of a manifest, whether it may be or not.
func raw(m api.Manifest) string {
	out := []byte{'M', byte(m.Epoch), byte(m.Epoch >> 8), byte(m.Epoch >> 16), byte(m.Log), byte(len(m.New)), byte(len(m.Old))}
	for _, b := range append(slices.Clone(m.New), m.Old...) {
		out = append(out, byte(b))
	}
	return string(out)
}

// image of a chip: all that can be seen of some blocks.
func image(c *chip.Chip, from, to int) string {
	s := ""
	for b := from; b < to; b++ {
		s += fmt.Sprintf("%d: %d %d %v", b, c.Wear(b), c.Next(b), c.Bad(b))
		for p := range api.Pages {
			x, err := c.Read(b, p)
			s += fmt.Sprintf(" %q %v", x, err)
		}
	}
	return s
}

type refused struct {
	what string
	m    api.Manifest
	want error
}

// wrong: manifests that are refused, and how.
func wrong() []refused {
	return []refused{
		{"zero", api.Manifest{}, api.ErrBound},
		{"epoch 0", api.Manifest{Epoch: 0, Log: 2}, api.ErrBound},
		{"epoch below", api.Manifest{Epoch: -1, Log: 2}, api.ErrBound},
		{"epoch above", api.Manifest{Epoch: api.MaxEpoch + 1, Log: 2}, api.ErrBound},
		{"epoch of four bytes", api.Manifest{Epoch: 1<<24 + 1, Log: 2}, api.ErrBound},
		{"least epoch", api.Manifest{Epoch: math.MinInt, Log: 2}, api.ErrBound},
		{"log is one of the first", api.Manifest{Epoch: 1, Log: api.Fixed - 1}, api.ErrBound},
		{"log above", api.Manifest{Epoch: 1, Log: api.Blocks}, api.ErrBound},
		{"log of two bytes", api.Manifest{Epoch: 1, Log: 256 + 2}, api.ErrBound},
		{"log far below", api.Manifest{Epoch: 1, Log: math.MinInt}, api.ErrBound},
		{"new is one of the first", api.Manifest{Epoch: 1, Log: 2, New: []int{3, 1}}, api.ErrBound},
		{"new above", api.Manifest{Epoch: 1, Log: 2, New: []int{3, api.Blocks}}, api.ErrBound},
		{"old is one of the first", api.Manifest{Epoch: 1, Log: 2, Old: []int{0}}, api.ErrBound},
		{"old above", api.Manifest{Epoch: 1, Log: 2, Old: []int{23, math.MaxInt}}, api.ErrBound},
		{"new is the log", api.Manifest{Epoch: 1, Log: 2, New: []int{3, 2}}, api.ErrShape},
		{"new twice", api.Manifest{Epoch: 1, Log: 2, New: []int{3, 4, 3}}, api.ErrShape},
		{"old is the log", api.Manifest{Epoch: 1, Log: 2, Old: []int{2}}, api.ErrShape},
		{"old is new", api.Manifest{Epoch: 1, Log: 2, New: []int{3}, Old: []int{4, 3}}, api.ErrShape},
		{"old twice", api.Manifest{Epoch: 1, Log: 2, Old: []int{4, 4}}, api.ErrShape},
		{"the first one's: shape", api.Manifest{Epoch: 1, Log: 2, New: []int{2, 1}, Old: []int{0}}, api.ErrShape},
		{"the first one's: bound", api.Manifest{Epoch: 1, Log: 2, New: []int{1, 2}}, api.ErrBound},
		{"new ahead of old", api.Manifest{Epoch: 1, Log: 2, New: []int{3, 3}, Old: []int{99}}, api.ErrShape},
		{"epoch ahead of all", api.Manifest{Epoch: 0, Log: 2, New: []int{2}}, api.ErrBound},
		{"more than there are", api.Manifest{Epoch: 1, Log: 2, New: slices.Repeat([]int{3}, 300)}, api.ErrShape},
	}
}

func TestCheck(t *testing.T) { // G1, Z3
	for _, m := range []api.Manifest{
		{Epoch: 1, Log: api.Fixed},
		{Epoch: api.MaxEpoch, Log: api.Blocks - 1},
		{Epoch: 1, Log: 5, New: []int{9, 3, 6}, Old: []int{23, 2}},
		full(),
	} {
		if err := Check(m); err != nil {
			t.Errorf("%v: %v", m, err)
		}
	}
	for _, w := range wrong() {
		if err := Check(w.m); err != w.want {
			t.Errorf("%s: %v, not %v", w.what, err, w.want)
		}
	}
}

func TestBytes(t *testing.T) { // G1
	for _, c := range []struct {
		m    api.Manifest
		want string
	}{
		{api.Manifest{Epoch: 1, Log: 2}, "M\x01\x00\x00\x02\x00\x00"},
		{api.Manifest{Epoch: 258, Log: 23, New: []int{4, 3}}, "M\x02\x01\x00\x17\x02\x00\x04\x03"},
		{api.Manifest{Epoch: 100000, Log: 2, Old: []int{9, 7}}, "M\xa0\x86\x01\x02\x00\x02\x09\x07"},
		{api.Manifest{Epoch: 65536, Log: 5, New: []int{6}, Old: []int{8, 7}}, "M\x00\x00\x01\x05\x01\x02\x06\x08\x07"},
		{full(), raw(full())},
	} {
		if s, err := Bytes(c.m); s != c.want || err != nil {
			t.Errorf("%v: %q %v, not %q", c.m, s, err, c.want)
		}
	}
	for _, w := range wrong() {
		if s, err := Bytes(w.m); s != "" || err != w.want {
			t.Errorf("%s: %q %v, not %v", w.what, s, err, w.want)
		}
	}
}

func TestParse(t *testing.T) { // G1, W6
	l := []api.Manifest{full()}
	for epoch := 1; epoch < 300; epoch++ {
		l = append(l, plain(epoch), plain(epoch*331))
	}
	for _, m := range l {
		s, err := Bytes(m)
		if err != nil {
			t.Fatal(err)
		}
		for _, behind := range []string{"", "\x00", "x", "M", s, strings.Repeat("\x00", api.Page), strings.Repeat("\xff", 1000)} {
			if got, err := Parse(s + behind); !same(got, m) || err != nil {
				t.Errorf("%q: %v %v, not %v", s+behind, got, err, m)
			}
		}
	}
}

func TestParseRefuses(t *testing.T) { // G1, Z1
	l := []string{"", "M", "m\x01\x00\x00\x02\x00\x00", "\x00M\x01\x00\x00\x02\x00\x00", strings.Repeat("\x00", api.Page), "F\x01\x00\x00\x02\x00\x00"}
	l = append(l, "M\x01\x00\x00\x02\xff\xff"+strings.Repeat("\x03", 600), "M\x01\x00\x00\x02\xff\x00\x03")
	for _, m := range []api.Manifest{plain(1), plain(2), plain(5), full()} {
		s := raw(m)
		for n := range len(s) {
			l = append(l, s[:n])
		}
	}
	for _, w := range wrong() {
		if w.m.Epoch >= 0 && w.m.Epoch < 1<<24 && w.m.Log >= 0 && w.m.Log < 256 && len(w.m.New) < 256 {
			l = append(l, raw(w.m))
		}
	}
	for _, s := range l {
		if m, err := Parse(s); !zero(m) || err != api.ErrText {
			t.Errorf("%q: %v %v", s, m, err)
		}
	}
}

func TestParseOfAnyBytes(t *testing.T) { // G1, Z1
	r := rand.New(rand.NewSource(7))
	read := 0
	for range 20000 {
		s := []byte("M\x01\x00\x00\x02\x02\x01\x03\x04\x05")[:r.Intn(11)]
		for range r.Intn(3) {
			if len(s) > 0 {
				s[r.Intn(len(s))] = byte(r.Intn(26))
			}
		}
		m, err := Parse(string(s))
		if err == nil {
			read++
			if b, err := Bytes(m); err != nil || !strings.HasPrefix(string(s), b) {
				t.Fatalf("%q: %v %v", s, m, err)
			}
		} else if err != api.ErrText || !zero(m) {
			t.Fatalf("%q: %v %v", s, m, err)
		}
	}
	if read < 100 {
		t.Errorf("only %d could be read", read)
	}
}

func TestListsAreNotShared(t *testing.T) { // G1, G2, Z2
	whole := []int{3, 4, 5, 6}
	m := api.Manifest{Epoch: 1, Log: 2, New: whole[:2], Old: whole[2:3]}
	c := chip.New()
	if _, err := Note(c, 0, m); err != nil {
		t.Fatal(err)
	}
	if !slices.Equal(whole, []int{3, 4, 5, 6}) {
		t.Errorf("what was handed in has changed: %v", whole)
	}
	whole[0] = 9
	f, _, _ := Find(c)
	_ = append(f.New, 99)
	if !slices.Equal(f.New, []int{3, 4}) || !slices.Equal(f.Old, []int{5}) {
		t.Errorf("lists share memory: %v", f)
	}
	f.Old[0] = 99
	if f, _, err := Find(c); !slices.Equal(f.New, []int{3, 4}) || !slices.Equal(f.Old, []int{5}) || err != nil {
		t.Errorf("%v %v", f, err)
	}
}

// found: does Find answer that one, in that block?
func found(t *testing.T, c *chip.Chip, what string, m api.Manifest, at int) {
	t.Helper()
	if got, b, err := Find(c); !same(got, m) || b != at || err != nil {
		t.Errorf("%s: %v in %d, %v, not %v in %d", what, got, b, err, m, at)
	}
}

// laid: a chip whose blocks have pages of these bytes.
func laid(t *testing.T, blocks ...[]string) *chip.Chip {
	t.Helper()
	c := chip.New()
	for b, pages := range blocks {
		for _, p := range pages {
			if err := c.Write(b, p); err != nil {
				t.Fatal(err)
			}
		}
	}
	return c
}

func TestFind(t *testing.T) { // G2, W6
	a, b, z := raw(plain(7)), raw(plain(8)), raw(plain(9))
	twin := api.Manifest{Epoch: 9, Log: 20}
	for _, c := range []struct {
		what   string
		blocks [][]string
		want   api.Manifest
		at     int
	}{
		{"one", [][]string{{a}}, plain(7), 0},
		{"one in the other block", [][]string{nil, {a}}, plain(7), 1},
		{"the last one", [][]string{{a, b, z}}, plain(9), 0},
		{"not the last one", [][]string{{a, z, b}}, plain(9), 0},
		{"the greater one's block", [][]string{{a, b}, {z}}, plain(9), 1},
		{"of the first block", [][]string{{z}, {a, b}}, plain(9), 0},
		{"the first one of two", [][]string{{a, z, raw(twin)}}, plain(9), 0},
		{"the first one of two blocks'", [][]string{{raw(twin)}, {z}}, twin, 0},
		{"pages that can't be parsed", [][]string{{"", "x", a, "M", "M\x0a\x00\x00\x01\x00\x00"}}, plain(7), 0},
		{"the last page of all", [][]string{{a}, {"", "", "", "", "", "", "", z}}, plain(9), 1},
		{"no other blocks", [][]string{{a}, {b}, {z}}, plain(8), 1},
	} {
		found(t, laid(t, c.blocks...), c.what, c.want, c.at)
	}
}

func TestFindNone(t *testing.T) { // G2, Z1
	for what, c := range map[string]*chip.Chip{
		"new":                        chip.New(),
		"none can be parsed":         laid(t, []string{"", "x"}, []string{"M", "M\x00\x00\x00\x02\x00\x00"}),
		"one in a block behind them": laid(t, nil, nil, []string{raw(plain(3))}),
	} {
		if m, b, err := Find(c); !zero(m) || b != 0 || err != api.ErrText {
			t.Errorf("%s: %v %d %v", what, m, b, err)
		}
	}
	c := laid(t, []string{raw(plain(3))})
	c.Arm(0)
	_ = c.Erase(5)
	if m, b, err := Find(c); !zero(m) || b != 0 || err != api.ErrDown {
		t.Errorf("it is down: %v %d %v", m, b, err)
	}
}

func TestFindPassesTornPages(t *testing.T) { // G2
	c := laid(t, []string{raw(plain(3))})
	c.Arm(0)
	_ = c.Write(0, raw(plain(4)))
	c.Restart(1)
	found(t, c, "a torn page", plain(3), 0)
	_ = c.Write(0, raw(plain(5)))
	found(t, c, "one behind it", plain(5), 0)
}

func TestNote(t *testing.T) { // G2, W5, W6
	c, at := chip.New(), 0
	before := image(c, api.Fixed, api.Blocks)
	for epoch := 1; epoch <= 60; epoch++ {
		// Eight are noted in a block, then the other one is erased, and has the next eight.
		n := epoch - 1
		block, page, wear := n/api.Pages%2, n%api.Pages, n/api.Pages
		m := plain(epoch)
		b, err := Note(c, at, m)
		if b != block || err != nil {
			t.Fatalf("epoch %d: %d %v, not %d", epoch, b, err, block)
		}
		at = b
		s, err := c.Read(b, page)
		if want := raw(m) + strings.Repeat("\x00", api.Page-len(raw(m))); s != want || err != nil || c.Next(b) != page+1 {
			t.Errorf("epoch %d: page %d has %q %v", epoch, page, s, err)
		}
		if got := c.Wear(0) + c.Wear(1); got != wear {
			t.Errorf("epoch %d: erased %d times, not %d", epoch, got, wear)
		}
		found(t, c, "noted", m, b)
	}
	if image(c, api.Fixed, api.Blocks) != before {
		t.Errorf("another block has changed")
	}
}

func TestNoteRefuses(t *testing.T) { // G2, Z1, Z3
	for _, w := range wrong() {
		for _, at := range []int{0, 1, -1, api.Blocks} {
			c := laid(t, slices.Repeat([]string{raw(plain(3))}, api.Pages), []string{raw(plain(4))})
			before := image(c, 0, api.Blocks)
			if b, err := Note(c, at, w.m); b != 0 || err != w.want || image(c, 0, api.Blocks) != before {
				t.Errorf("%s in %d: %d %v, not %v", w.what, at, b, err, w.want)
			}
			c.Arm(0)
			_ = c.Erase(5)
			if b, err := Note(c, at, w.m); b != 0 || err != w.want {
				t.Errorf("%s in %d, the machine is down: %d %v, not %v", w.what, at, b, err, w.want)
			}
		}
	}
}

func TestNoteTellsTheChipsErrors(t *testing.T) { // G2, Z1
	for _, at := range []int{-1, api.Blocks, math.MaxInt, math.MinInt} {
		c := laid(t, []string{raw(plain(3))})
		before := image(c, 0, api.Blocks)
		if b, err := Note(c, at, plain(4)); b != 0 || err != api.ErrBound || image(c, 0, api.Blocks) != before {
			t.Errorf("block %d: %d %v", at, b, err)
		}
	}
	c := laid(t, slices.Repeat([]string{raw(plain(3))}, api.Pages))
	c.Arm(0)
	_ = c.Erase(5)
	for at := range api.Fixed {
		if b, err := Note(c, at, plain(4)); b != 0 || err != api.ErrDown {
			t.Errorf("block %d, the machine is down: %d %v", at, b, err)
		}
	}
}

// noteFalls: m is noted, and the machine falls behind so many steps; what is found then is held against what may be. Whether it fell.
func noteFalls(t *testing.T, c *chip.Chip, at int, last, m api.Manifest, steps, how int) bool {
	t.Helper()
	c.Arm(steps)
	b, err := Note(c, at, m)
	if err == nil {
		c.Arm(-1)
		found(t, c, "no fall", m, b)
		return false
	}
	if b != 0 || err != api.ErrDown {
		t.Fatalf("epoch %d, a fall behind %d steps: %d %v", m.Epoch, steps, b, err)
	}
	c.Restart(how)
	got, _, err := Find(c)
	if err != nil || !same(got, last) && !(how == 2 && same(got, m)) {
		t.Fatalf("epoch %d, a fall behind %d steps, %d: %v %v", m.Epoch, steps, how, got, err)
	}
	return true
}

func TestNoteFallsAtAnyStep(t *testing.T) { // G2, W2, W6
	for ahead := 1; ahead <= 3*api.Pages; ahead++ {
		for steps := range 3 {
			for how := range 3 {
				c, at := chip.New(), 0
				for epoch := 1; epoch <= ahead; epoch++ {
					at, _ = Note(c, at, plain(epoch))
				}
				two := ahead%api.Pages == 0 // an erasing, and a page
				fell := noteFalls(t, c, at, plain(ahead), plain(ahead+1), steps, how)
				if want := steps == 0 || two && steps == 1; fell != want {
					t.Errorf("%d ahead, %d steps: a fall: %v", ahead, steps, fell)
				}
				goesOn(t, c)
			}
		}
	}
}

// goesOn: behind a fall notes go on, from what is found.
func goesOn(t *testing.T, c *chip.Chip) {
	t.Helper()
	last, at, err := Find(c)
	if err != nil {
		t.Fatal(err)
	}
	for i := range 2*api.Pages + 1 {
		m := plain(last.Epoch + 1 + i)
		if at, err = Note(c, at, m); err != nil {
			t.Fatal(err)
		}
		found(t, c, "behind a fall", m, at)
	}
}

func TestNoteFallsAgainAndAgain(t *testing.T) { // G2, W2, W6
	r := rand.New(rand.NewSource(8))
	for range 300 {
		c := chip.New()
		if _, err := Note(c, 0, plain(1)); err != nil {
			t.Fatal(err)
		}
		for range 60 {
			last, at, err := Find(c)
			if err != nil {
				t.Fatal(err)
			}
			noteFalls(t, c, at, last, plain(last.Epoch+1), r.Intn(4), r.Intn(3))
		}
		goesOn(t, c)
	}
}

func TestTheFirstNoteFalls(t *testing.T) { // G2
	for how := range 3 {
		c := chip.New()
		c.Arm(0)
		if _, err := Note(c, 0, plain(1)); err != api.ErrDown {
			t.Fatal(err)
		}
		c.Restart(how)
		m, b, err := Find(c)
		if how == 2 {
			found(t, c, "done", plain(1), 0)
		} else if !zero(m) || b != 0 || err != api.ErrText {
			t.Errorf("%d: %v %d %v", how, m, b, err)
		}
	}
}
