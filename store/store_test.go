package store

import (
	"fmt"
	"math/rand"
	"slices"
	"strings"
	"testing"

	"tidegate/api"
	"tidegate/chip"
	"tidegate/entry"
	"tidegate/manifest"
	"tidegate/table"
)

// wide: n changes as long as they may be.
func wide(n int) []api.Entry {
	var l []api.Entry
	for i := range n {
		l = append(l, has("kkkkkkk"+string(rune('a'+i)), strings.Repeat("v", api.MaxVal)))
	}
	return l
}

// weakenAll blocks, but some.
func weakenAll(c *chip.Chip, but ...int) {
	for b := api.Fixed; b < api.Blocks; b++ {
		if !slices.Contains(but, b) {
			_ = c.Weaken(b)
		}
	}
}

func TestFormat(t *testing.T) { // H1, H2
	c := chip.New()
	if s, err := Open(c); s != nil || err != api.ErrText {
		t.Errorf("a new chip: %v %v", s, err)
	}
	ok(t, Format(c))
	s := opened(t, c)
	wants(t, s, "")
	wantsUses(t, s, "2 [] []")
	if m := s.Manifest(); m.Epoch != 1 || c.Next(m.Log) != 0 || c.Wear(m.Log) != 1 {
		t.Errorf("%v, the log's next page %d, its wear %d", m, c.Next(m.Log), c.Wear(m.Log))
	}
	if _, at, err := manifest.Find(c); at != 0 || err != nil {
		t.Errorf("the manifest is in block %d, %v", at, err)
	}
	sound(t, c, s)
}

func TestFormatUsesTheBlockOfLeastWear(t *testing.T) { // H1, H2
	c := chip.New()
	for b := api.Fixed; b < api.Blocks; b++ {
		for range []int{3, 2, 1, 2, 1, 5}[b%6] {
			ok(t, c.Erase(b))
		}
	}
	ok(t, Format(c))
	wantsUses(t, opened(t, c), "2 [] []") // 2 and 4 are of least wear
	ok(t, Format(c))
	wantsUses(t, opened(t, c), "4 [] []")
}

// litter: a chip with all kinds of pages on it, some of them torn, and no manifest.
func litter(t *testing.T, r *rand.Rand) *chip.Chip {
	t.Helper()
	c := chip.New()
	for b := range api.Blocks {
		for range r.Intn(api.Pages + 1) {
			c.Arm(r.Intn(3))
			_ = c.Write(b, []string{"", "F", "x", "M", "M\x00\x00\x00\x02\x00\x00", "\x01\x00\x01\x01ax", "\x02\x01\x01\x00a"}[r.Intn(7)])
			c.Restart(r.Intn(3))
		}
	}
	return c
}

func TestFormatWhateverWasThere(t *testing.T) { // H1, W3
	r := rand.New(rand.NewSource(1))
	for range 100 {
		c := litter(t, r)
		if s, err := Open(c); s != nil || err != api.ErrText {
			t.Fatalf("there is none: %v %v", s, err)
		}
		for range 3 {
			ok(t, Format(c))
			s := opened(t, c)
			wants(t, s, "")
			if c.Next(s.Manifest().Log) != 0 {
				t.Errorf("the log isn't blank")
			}
			for _, b := range many(0, 37) {
				write(t, s, b)
				if r.Intn(4) == 0 {
					ok(t, s.Flush())
				}
			}
			wants(t, opened(t, c), joined(many(0, 37)))
			sound(t, c, s)
		}
	}
}

func TestFormatOverAnyEpoch(t *testing.T) { // H1
	for _, epoch := range []int{1, 2, 9, 4711, api.MaxEpoch - 1, api.MaxEpoch} {
		for at := range api.Fixed {
			c := chip.New()
			_, err := manifest.Note(c, at, api.Manifest{Epoch: epoch, Log: 5})
			ok(t, err)
			write(t, opened(t, c), "a=1")
			ok(t, Format(c))
			s := opened(t, c)
			wants(t, s, "")
			write(t, s, "b=2")
			for range 20 {
				ok(t, s.Flush())
			}
			wants(t, opened(t, c), "b=2")
			sound(t, c, s)
		}
	}
}

func TestFormatWhereBlocksAreBad(t *testing.T) { // H1, H2, W4
	for last := api.Fixed; last < api.Blocks; last++ {
		c := chip.New()
		weakenAll(c, last)
		ok(t, Format(c))
		s := opened(t, c)
		wantsUses(t, s, fmt.Sprintf("%d [] []", last))
		write(t, s, "a=1", "b=2", "c=3", "d=4", "e=5", "f=6", "g=7", "a=8")
		if err := s.Write(rows("z=1")); err != api.ErrFull {
			t.Errorf("no page is left, and no block: %v", err)
		}
		wants(t, s, "a=8 b=2 c=3 d=4 e=5 f=6 g=7")
		ok(t, Format(c)) // the store that was has the only block
		s = opened(t, c)
		wants(t, s, "")
		wantsUses(t, s, fmt.Sprintf("%d [] []", last))
		write(t, s, "y=9")
		wants(t, opened(t, c), "y=9")
	}
}

func TestFormatWhereNoBlockIsLeft(t *testing.T) { // H1, Z1
	c := chip.New()
	weakenAll(c)
	for range 2 {
		if err := Format(c); err != api.ErrFull {
			t.Errorf("no block is left: %v", err)
		}
		if s, err := Open(c); s != nil || err != api.ErrText {
			t.Errorf("there is none: %v %v", s, err)
		}
	}
	c.Arm(0)
	_ = c.Erase(0)
	if err := Format(c); err != api.ErrDown {
		t.Errorf("it is down, and no block is left: %v", err)
	}
	c, s := made(t)
	write(t, s, many(0, 20)...)
	ok(t, s.Flush())
	write(t, s, "z=1")
	weakenAll(c)
	for range 2 {
		if err := Format(c); err != api.ErrFull {
			t.Errorf("no block is left: %v", err)
		}
		// What is refused changes nothing: bad blocks can be read.
		wants(t, opened(t, c), joined(many(0, 20))+" z=1")
	}
}

func TestFormatLeavesTheStoreThatWasAlone(t *testing.T) { // H1, W4
	c, s := made(t)
	write(t, s, many(0, 20)...)
	ok(t, s.Flush())
	was := s.Manifest()
	ok(t, Format(c))
	if log := opened(t, c).Manifest().Log; slices.Contains(slices.Concat([]int{was.Log}, was.New), log) {
		t.Errorf("the log is block %d, of %v", log, was)
	}
}

func TestDown(t *testing.T) { // H1, Z1
	c, s := made(t)
	write(t, s, "a=1")
	c.Arm(0)
	if err := s.Write(rows("b=2")); err != api.ErrDown {
		t.Errorf("%v", err)
	}
	if s, err := Open(c); s != nil || err != api.ErrDown {
		t.Errorf("open: %v %v", s, err)
	}
	if l, err := s.Rows(); len(l) != 0 || err != api.ErrDown {
		t.Errorf("rows: %v %v", l, err)
	}
	if v, is, err := s.Get("a"); v != "" || is || err != api.ErrDown {
		t.Errorf("get: %v %v %v", v, is, err)
	}
	for what, err := range map[string]error{
		"format": Format(c), "flush": s.Flush(), "compact": s.Compact(), "write": s.Write(rows("c=3")),
	} {
		if err != api.ErrDown {
			t.Errorf("%s: %v", what, err)
		}
	}
	c.Restart(0)
	wants(t, opened(t, c), "a=1")
}

// laidByHand: a chip with a store of two new tables, two old ones and a log.
func laidByHand(t *testing.T) *chip.Chip {
	t.Helper()
	c := chip.New()
	for b, l := range map[int]string{
		9: "b=9 d f=9", 4: "a=4 b d=4 g=4", // new
		20: "a=20 b=20 c=20", 3: "d=3 e=3 f=3 h=3 i=3", // old
		7: "a=wrong z=wrong", 5: "y=wrong", // neither
	} {
		ok(t, table.Write(c, b, rows(l)))
	}
	for _, batch := range []string{"h=1 h e=2", "e h=3 i", "e=4"} {
		page, err := entry.Bytes(rows(batch))
		ok(t, err)
		ok(t, c.Write(11, page))
	}
	_, err := manifest.Note(c, 1, api.Manifest{Epoch: 40, Log: 11, New: []int{9, 4}, Old: []int{20, 3}})
	ok(t, err)
	_, err = manifest.Note(c, 0, api.Manifest{Epoch: 39, Log: 5, New: []int{7}})
	ok(t, err)
	return c
}

func TestOpen(t *testing.T) { // H1, H2, W6
	c := laidByHand(t)
	before := image(c)
	s := opened(t, c)
	wants(t, s, "a=4 b=9 c=20 e=4 f=9 g=4 h=3")
	wantsUses(t, s, "11 [9 4] [20 3]")
	if s.Manifest().Epoch != 40 {
		t.Errorf("%v", s.Manifest())
	}
	if image(c) != before {
		t.Errorf("what is read has changed")
	}
	ok(t, s.Compact())
	wants(t, s, "a=4 b=9 c=20 e=4 f=9 g=4 h=3")
	wantsUses(t, s, "11 [] [2]")
	if l, err := table.All(c, 2); text(l) != "a=4 b=9 c=20 e=3 f=9 g=4 h=3 i=3" || err != nil {
		t.Errorf("%s %v", text(l), err)
	}
	sound(t, c, s)
}

func TestRowsTellTheChipsErrors(t *testing.T) { // H1, Z1
	for _, old := range []bool{false, true} {
		c := laidByHand(t)
		m := api.Manifest{Epoch: 41, Log: 11, New: []int{9, 15}}
		if old {
			m.New, m.Old = []int{9}, []int{15}
		}
		_, err := manifest.Note(c, 1, m)
		ok(t, err)
		s := opened(t, c)
		for _, want := range []error{api.ErrNone, api.ErrText} { // the table is blank, then torn
			if l, err := s.Rows(); len(l) != 0 || err != want {
				t.Errorf("rows: %v %v, not %v", l, err, want)
			}
			if v, is, err := s.Get("zz"); v != "" || is || err != want {
				t.Errorf("get: %q %v %v, not %v", v, is, err, want)
			}
			if err := s.Check(rows("a=1")); err != want {
				t.Errorf("check: %v, not %v", err, want)
			}
			if err := s.Write(rows("a=1")); err != want {
				t.Errorf("write: %v, not %v", err, want)
			}
			if err := s.Compact(); err != want {
				t.Errorf("compact: %v, not %v", err, want)
			}
			c.Arm(0)
			_ = c.Write(15, "")
			c.Restart(1)
		}
	}
}

func TestGetFindsTheNewest(t *testing.T) { // H1, W3
	c, s := made(t)
	for i, put := range []string{"a=1 b=1 c=1 d=1", "b=2 c", "c=3 d=", "a e=4"} {
		write(t, s, put)
		want := []string{"a=1 b=1 c=1 d=1", "a=1 b=2 d=1", "a=1 b=2 c=3 d=", "b=2 c=3 d= e=4"}[i]
		wants(t, s, want)
		ok(t, s.Flush())
		wants(t, s, want)
		wants(t, opened(t, c), want)
	}
}

func TestEachBatchIsAPageOfTheLog(t *testing.T) { // H2, H3
	c, s := made(t)
	var batches []string
	for p, b := range []string{"a=1", "b=2 a", "c c=1 c", "d=", "e=1 f=2 g=3 h=4", "zz", "a=5", "q=1"} {
		before := c.Next(s.Manifest().Log)
		write(t, s, b)
		batches = append(batches, b)
		want, err := entry.Bytes(rows(b))
		ok(t, err)
		got, err := c.Read(2, p)
		if strings.TrimRight(got, "\x00") != strings.TrimRight(want, "\x00") || err != nil || before != p {
			t.Errorf("page %d: %q %v, not %q", p, got, err, want)
		}
		if got := logOf(t, c, s); !slices.Equal(got, batches) {
			t.Errorf("the log has %q, not %q", got, batches)
		}
	}
	wantsUses(t, s, "2 [] []")
	wants(t, s, "a=5 b=2 d= e=1 f=2 g=3 h=4 q=1")
}

func TestFreeBlocksOfLeastWear(t *testing.T) { // H2, H4
	_, s := made(t)
	for i, want := range []string{"4 [3] []", "6 [5 3] []", "8 [] [9]", "11 [10] [9]", "13 [12 10] [9]", "15 [] [16]", "18 [17] [16]", "20 [19 17] [16]", "22 [] [23]"} {
		write(t, s, fmt.Sprintf("k%d=%d", i, i))
		ok(t, s.Flush())
		wantsUses(t, s, want)
	}
	// All are worn alike: the first one that is free is used again.
	for i, want := range []string{"3 [2] [23]", "5 [4 2] [23]", "7 [] [8]"} {
		write(t, s, fmt.Sprintf("k%d=%d", i, 2*i))
		ok(t, s.Flush())
		wantsUses(t, s, want)
	}
	wants(t, s, "k0=0 k1=2 k2=4 k3=3 k4=4 k5=5 k6=6 k7=7 k8=8")
}

func TestBlocksThatGoBadArePassedOver(t *testing.T) { // H2, H3, H4, W1, W4
	c, s := made(t)
	write(t, s, "a=1")
	for _, b := range []int{3, 4, 6, 7, 10} {
		ok(t, c.Weaken(b))
	}
	ok(t, s.Flush()) // a table, and a log
	wantsUses(t, s, "8 [5] []")
	write(t, s, "b=2")
	ok(t, c.Weaken(8)) // the log itself
	write(t, s, "c=3")
	wantsUses(t, s, "11 [9 5] []")
	if got := logOf(t, c, s); !slices.Equal(got, []string{"c=3"}) {
		t.Errorf("the log has %q", got)
	}
	for _, b := range []int{12, 14, 15} { // one of each: a table, a log, and a table of all that is put together
		ok(t, c.Weaken(b))
	}
	ok(t, s.Flush())
	wantsUses(t, s, "16 [] [17]")
	wants(t, s, "a=1 b=2 c=3")
	for b := api.Fixed; b < api.Blocks; b++ {
		if want := slices.Contains([]int{3, 4, 6, 7, 8, 10, 12, 14, 15}, b); c.Bad(b) != want {
			t.Errorf("block %d is bad: %v", b, c.Bad(b))
		}
	}
	sound(t, c, s)
}

func TestALogThatGoesBadWhileBlank(t *testing.T) { // H3
	c, s := made(t)
	write(t, s, "a=1")
	ok(t, s.Flush())
	ok(t, c.Weaken(s.Manifest().Log))
	write(t, s, "b=2") // nothing is at hand
	wantsUses(t, s, "5 [3] []")
	wants(t, opened(t, c), "a=1 b=2")
	if !c.Bad(4) {
		t.Errorf("it isn't bad")
	}
}

func TestCheck(t *testing.T) { // H3, Z3
	_, s := made(t)
	write(t, s, many(0, 40)...)
	for _, c := range []struct {
		what  string
		batch []api.Entry
		want  error
	}{
		{"none", nil, api.ErrMany},
		{"none, not nil", []api.Entry{}, api.ErrMany},
		{"five", rows("k00=1 k01=1 k02=1 k03=1 k04=1"), api.ErrMany},
		{"five that may not be", rows("=1 =1 =1 =1 =1"), api.ErrMany},
		{"no key", rows("k00=1 =1"), api.ErrShape},
		{"gone, with a value", []api.Entry{{Key: "k00", Val: "x", Gone: true}}, api.ErrShape},
		{"a long key", rows("abcdefghi=1"), api.ErrMany},
		{"a long value", rows("k00=12345678901234567"), api.ErrMany},
		{"the first one's: shape", rows("=1 abcdefghi=1"), api.ErrShape},
		{"the first one's: many", rows("abcdefghi=1 =1"), api.ErrMany},
		{"more bytes than a page has", wide(3), api.ErrMany},
		{"one key too many", rows("z=1"), api.ErrFull},
		{"one key too many, behind others", rows("k00=1 k01=1 z=1 z=2"), api.ErrFull},
		{"two more, one gone", rows("y=1 k00 z=1"), api.ErrFull},
		{"shape ahead of full", rows("z=1 =1"), api.ErrShape},
		{"one more, that is gone at once", rows("z=1 z"), nil},
		{"one more, one gone behind it", rows("z=1 k00"), nil},
		{"one more, one gone ahead of it", rows("k00 z=1"), nil},
		{"two more, two gone", rows("y=1 z=1 k39 k38"), nil},
		{"gone, and there again", rows("k00 k00=1"), nil},
		{"gone what isn't there", rows("y z"), nil},
		{"of those that are there", rows("k00= k01=x k02 k00=y"), nil},
	} {
		before := image(s.c)
		if err := s.Check(c.batch); err != c.want {
			t.Errorf("%s: %v, not %v", c.what, err, c.want)
		}
		if c.want != nil {
			if err := s.Write(c.batch); err != c.want {
				t.Errorf("write: %s: %v, not %v", c.what, err, c.want)
			}
		}
		if image(s.c) != before {
			t.Errorf("%s: the chip has changed", c.what)
		}
	}
	wants(t, s, joined(many(0, 40)))
}

func TestCheckCountsRowsWhereverTheyAre(t *testing.T) { // H3
	for n := range 11 {
		c, s := made(t)
		for i, b := range many(0, 40) {
			write(t, s, b)
			if i == n {
				ok(t, s.Flush())
				ok(t, s.Compact())
			}
		}
		if err := s.Check(rows("z=1")); err != api.ErrFull {
			t.Errorf("%v", err)
		}
		write(t, s, "k39", "z=1", "z k38", "x=1 y=1", "y", "k39=1")
		if err := s.Write(rows("z=1")); err != api.ErrFull {
			t.Errorf("%v", err)
		}
		wants(t, opened(t, c), joined(many(0, 38))+" k39=1 x=1")
	}
}

func TestWideBatches(t *testing.T) { // H3, H4, W6
	c, s := made(t)
	page := wide(2) // 55 bytes
	page = append(page, has("a", "12345"))
	ok(t, s.Write(page)) // as many as a page has
	if err := s.Write(append(wide(2), has("a", "123456"))); err != api.ErrMany {
		t.Errorf("%v", err)
	}
	any := []api.Entry{{Key: "\x00", Val: "\xff\x00"}, {Key: "\xff", Val: "="}, {Key: " ", Val: " "}}
	ok(t, s.Write(any))
	for range 2 {
		s = opened(t, c)
		for _, e := range slices.Concat(page, any) {
			if v, is, err := s.Get(e.Key); v != e.Val || !is || err != nil {
				t.Errorf("%q: %q %v %v", e.Key, v, is, err)
			}
		}
		l, err := s.Rows()
		if want := []api.Entry{any[0], any[2], page[2], page[0], page[1], any[1]}; !slices.Equal(l, want) || err != nil {
			t.Errorf("%v %v, not %v", l, err, want)
		}
		ok(t, s.Flush())
	}
}

func TestWriteFlushesWhereNoPageIsLeft(t *testing.T) { // H3
	c, s := made(t)
	write(t, s, "a=1", "b=2", "c=3", "d=4", "e=5", "f=6", "g=7", "h=8")
	wantsUses(t, s, "2 [] []")
	write(t, s, "a")
	wantsUses(t, s, "4 [3] []")
	if got := logOf(t, c, s); !slices.Equal(got, []string{"a"}) {
		t.Errorf("the log has %q", got)
	}
	if l, err := table.All(c, 3); text(l) != "a=1 b=2 c=3 d=4 e=5 f=6 g=7 h=8" || err != nil {
		t.Errorf("the table has %s %v", text(l), err)
	}
	wants(t, s, "b=2 c=3 d=4 e=5 f=6 g=7 h=8")
	sound(t, c, s)
}

func TestALogOfTornPages(t *testing.T) { // H3, H5
	c, s := made(t)
	for range api.Pages {
		c.Arm(0)
		if err := s.Write(rows("a=1")); err != api.ErrDown {
			t.Fatal(err)
		}
		c.Restart(1)
		s = opened(t, c)
		wants(t, s, "")
	}
	wantsUses(t, s, "2 [] []")
	write(t, s, "b=2")
	wantsUses(t, s, "3 [] []")
	wants(t, opened(t, c), "b=2")
}

func TestFlushCutsTables(t *testing.T) { // H4
	for n := range 33 {
		c, s := made(t)
		var want []string
		for _, b := range many(0, n) {
			write(t, s, b)
		}
		for part := range slices.Chunk(rows(joined(many(0, n))), table.Most) {
			want = append(want, text(part))
		}
		log := s.Manifest().Log
		ok(t, s.Flush())
		m := s.Manifest()
		blocks := m.New
		if len(want) >= api.Low {
			blocks = m.Old
		}
		var got []string
		for _, b := range blocks {
			l, err := table.All(c, b)
			ok(t, err)
			got = append(got, text(l))
		}
		if !slices.Equal(got, want) || len(m.New)+len(m.Old) != len(want) {
			t.Errorf("%d: %v: %q, not %q", n, m, got, want)
		}
		if m.Log == log || c.Next(m.Log) != 0 {
			t.Errorf("%d: the log was %d, is %d, its next page %d", n, log, m.Log, c.Next(m.Log))
		}
		wants(t, s, joined(many(0, n)))
		sound(t, c, s)
	}
}

func TestFlushOfNothing(t *testing.T) { // H4
	c, s := made(t)
	write(t, s, "a=1")
	ok(t, s.Flush())
	for range 30 {
		m := s.Manifest()
		ok(t, s.Flush())
		n := s.Manifest()
		if n.Log == m.Log || c.Next(n.Log) != 0 || !slices.Equal(n.New, m.New) || !slices.Equal(n.Old, m.Old) {
			t.Errorf("%v, behind %v", n, m)
		}
	}
	wants(t, s, "a=1")
}

func TestFlushLaysWhatIsGone(t *testing.T) { // H4, W3
	c, s := made(t)
	write(t, s, "a=1 b=2")
	ok(t, s.Flush())
	write(t, s, "a c", "b=3 b")
	ok(t, s.Flush())
	if l, err := table.All(c, s.Manifest().New[0]); text(l) != "a b c" || err != nil {
		t.Errorf("%s %v", text(l), err)
	}
	wants(t, opened(t, c), "")
}

func TestFlushCompactsBehind(t *testing.T) { // H4, W4
	c, s := made(t)
	for i := range 40 {
		write(t, s, fmt.Sprintf("k%02d=%d", i%7, i))
		ok(t, s.Flush())
		m := s.Manifest()
		if len(m.New) != (i+1)%api.Low || (len(m.Old) > 0) != (i+1 >= api.Low) {
			t.Errorf("%d: %v", i, m)
		}
		sound(t, c, s)
	}
	wants(t, s, "k00=35 k01=36 k02=37 k03=38 k04=39 k05=33 k06=34")
}

func TestFlushCompactsAhead(t *testing.T) { // H4
	for tables := 0; tables <= 6; tables++ {
		c := chip.New()
		m := api.Manifest{Epoch: 7, Log: 20, Old: []int{19}}
		ok(t, table.Write(c, 19, rows("a=old b=old")))
		for b := 2; b < 2+tables; b++ {
			ok(t, table.Write(c, b, rows(fmt.Sprintf("b=%d c%d=1", b, b))))
			m.New = append(m.New, b)
		}
		_, err := manifest.Note(c, 0, m)
		ok(t, err)
		s := opened(t, c)
		was := told(t, s)
		write(t, s, "z=1")
		ok(t, s.Flush())
		wants(t, s, was+" z=1")
		// Put together ahead of it: one table is new. Put together behind it: none is.
		want := tables + 1
		if tables >= api.Low {
			want = 1
		} else if tables+1 >= api.Low {
			want = 0
		}
		if n := s.Manifest(); len(n.New) != want || len(n.Old) != 1 {
			t.Errorf("%d tables: %v", tables, n)
		}
		sound(t, c, s)
	}
}

func TestCompact(t *testing.T) { // H4, H2
	c, s := made(t)
	write(t, s, many(0, 32)...)
	ok(t, s.Flush()) // three tables, that are put together
	wantsUses(t, s, "6 [] [7 8 9]")
	write(t, s, "k00 k31=new", "a=1")
	ok(t, s.Flush())
	write(t, s, "k01 b=2")
	ok(t, s.Compact())
	wantsUses(t, s, "11 [] [12 13 14]")
	var all []string
	for _, b := range s.Manifest().Old {
		l, err := table.All(c, b)
		ok(t, err)
		all = append(all, fmt.Sprint(len(l)))
	}
	if !slices.Equal(all, []string{"14", "14", "4"}) {
		t.Errorf("tables of %v", all)
	}
	if got := logOf(t, c, s); !slices.Equal(got, []string{"k01 b=2"}) {
		t.Errorf("at hand: %q", got)
	}
	wants(t, s, "a=1 b=2 "+strings.TrimPrefix(strings.Replace(joined(many(0, 32)), "k31=31", "k31=new", 1), "k00=0 k01=1 "))
	sound(t, c, s)
	before := image(c)
	ok(t, s.Compact())
	if image(c) != before {
		t.Errorf("none is new: the chip has changed")
	}
}

func TestCompactOfNothing(t *testing.T) { // H4
	c, s := made(t)
	ok(t, s.Compact())
	wants(t, s, "")
	write(t, s, "a=1")
	ok(t, s.Compact())
	wantsUses(t, s, "2 [] []")
	wants(t, opened(t, c), "a=1")
}

func TestNoTableIsLeftWhenAllIsGone(t *testing.T) { // H4, W4
	c, s := made(t)
	write(t, s, many(0, 40)...)
	ok(t, s.Flush())
	for i := range 40 {
		write(t, s, fmt.Sprintf("k%02d", i))
	}
	wants(t, s, "")
	ok(t, s.Flush())
	ok(t, s.Compact())
	wants(t, s, "")
	if m := s.Manifest(); len(m.New) != 0 || len(m.Old) != 0 {
		t.Errorf("tables are left: %v", m)
	}
	sound(t, c, s)
	write(t, s, "a=1")
	wants(t, opened(t, c), "a=1")
}

func TestFullIsAsItWas(t *testing.T) { // H2, H4, W3
	c, s := made(t)
	write(t, s, many(0, 20)...)
	ok(t, s.Flush())
	write(t, s, "z=1", "k00")
	want := told(t, s)
	m := s.Manifest()
	weakenAll(c, append(m.New, m.Log, 17)...)
	// A block is left for the table, none for the log.
	for range 2 {
		if err := s.Flush(); err != api.ErrFull {
			t.Errorf("flush: %v", err)
		}
		wants(t, s, want)
		wantsUses(t, s, fmt.Sprintf("%d %v []", m.Log, m.New))
		sound(t, c, s)
	}
	// Two tables would be put together.
	for range 2 {
		if err := s.Compact(); err != api.ErrFull {
			t.Errorf("compact: %v", err)
		}
		wants(t, s, want)
		wantsUses(t, s, fmt.Sprintf("%d %v []", m.Log, m.New))
		sound(t, c, s)
	}
	write(t, s, "a=1", "b=2") // the log has pages left
	want = after(want, rows("a=1 b=2"))
	ok(t, c.Weaken(m.Log))
	before := s.Manifest().Epoch
	for range 2 {
		if err := s.Write(rows("c=3")); err != api.ErrFull {
			t.Errorf("write: %v", err)
		}
		wants(t, s, want)
		wants(t, opened(t, c), want)
	}
	if s.Manifest().Epoch != before {
		t.Errorf("%v", s.Manifest())
	}
}

func TestFullBehindTheLaying(t *testing.T) { // H4
	c, s := made(t)
	write(t, s, many(0, 30)...)
	ok(t, s.Flush())
	for _, b := range []string{"y=1", "z=1"} {
		write(t, s, b)
		ok(t, s.Flush())
	}
	write(t, s, "a=1")
	m := s.Manifest()
	if len(m.Old) != 3 || len(m.New) != 2 {
		t.Fatal(m)
	}
	weakenAll(c, slices.Concat(m.New, m.Old, []int{m.Log, 20, 21})...)
	want := "a=1 " + joined(many(0, 30)) + " y=1 z=1"
	// Two blocks are left, for the table and the log; behind it one, where three tables would be put together.
	if err := s.Flush(); err != api.ErrFull {
		t.Errorf("%v", err)
	}
	n := s.Manifest()
	wantsUses(t, s, fmt.Sprintf("21 %v %v", append([]int{20}, m.New...), m.Old))
	wants(t, s, want)
	sound(t, c, s)
	// Now there are many tables ahead of it: nothing is laid.
	write(t, s, "b=1")
	if err := s.Flush(); err != api.ErrFull || s.Manifest().Log != n.Log || len(s.Manifest().New) != 3 {
		t.Errorf("%v %v, behind %v", err, s.Manifest(), n)
	}
	wants(t, s, after(want, rows("b=1")))
	sound(t, c, s)
}

func TestListsAreNotShared(t *testing.T) { // Z2
	_, s := made(t)
	whole := rows("a=1 b=2 c=3 d=4")
	ok(t, s.Check(whole[:2]))
	ok(t, s.Write(whole[:2]))
	if text(whole) != "a=1 b=2 c=3 d=4" {
		t.Errorf("what was handed in has changed: %v", whole)
	}
	whole[0] = has("a", "wrong")
	wants(t, s, "a=1 b=2")
	for range 3 {
		l, _ := s.Rows()
		l[0].Val = "wrong"
		_ = append(l[:1], has("z", "wrong"))
		wants(t, s, "a=1 b=2")
		ok(t, s.Flush())
	}
	write(t, s, "a=1")
	ok(t, s.Flush())
	ok(t, s.Compact())
	write(t, s, "b=2")
	ok(t, s.Flush())
	m := s.Manifest()
	_ = append(m.New, 99)
	m.New[0], m.Old[0] = 99, 99
	if n := s.Manifest(); n.New[0] == 99 || n.Old[0] == 99 {
		t.Errorf("%v", n)
	}
	wants(t, s, "a=1 b=2")
}

func TestEpochsBeginAnew(t *testing.T) { // H4, W1
	c, s := made(t)
	write(t, s, "a=1")
	ok(t, s.Flush())
	m := s.Manifest()
	m.Epoch = api.MaxEpoch - 1
	_, err := manifest.Note(c, 0, m)
	ok(t, err)
	s = opened(t, c)
	for i, epoch := range []int{api.MaxEpoch, 2, 3, 4, 6, 7, 8, 10, 11, 12, 14, 15, 16, 18, 19, 20} {
		// Of the second flush, and of each third one behind it, two are noted: tables are put together.
		write(t, s, fmt.Sprintf("b=%d", i))
		ok(t, s.Flush())
		if got := s.Manifest().Epoch; got != epoch {
			t.Errorf("flush %d: epoch %d, not %d", i, got, epoch)
		}
		wants(t, s, fmt.Sprintf("a=1 b=%d", i))
		sound(t, c, s)
	}
}
