package table

import (
	"fmt"
	"math"
	"math/rand"
	"slices"
	"strings"
	"testing"

	"tidegate/api"
	"tidegate/chip"
	"tidegate/entry"
	"tidegate/filter"
)

// has an entry of that key; gone is one that is no more.
func has(key, val string) api.Entry { return api.Entry{Key: key, Val: val} }
func gone(key string) api.Entry     { return api.Entry{Key: key, Gone: true} }

// rising: n entries, of every second letter, the third of each three gone.
func rising(n int) []api.Entry {
	var l []api.Entry
	for i := range n {
		e := has("k"+string(rune('A'+2*i)), strings.Repeat("v", i%5))
		if i%3 == 2 {
			e = gone(e.Key)
		}
		l = append(l, e)
	}
	return l
}

// wide: n entries as long as they may be.
func wide(n int) []api.Entry {
	var l []api.Entry
	for i := range n {
		l = append(l, has("kkkkkkk"+string(rune('a'+i)), strings.Repeat("v", api.MaxVal)))
	}
	return l
}

// padded: a page's bytes, with bytes 0 behind.
func padded(s string) string { return s + strings.Repeat("\x00", api.Page-len(s)) }

// image of a chip: all that can be seen of some blocks.
func image(c *chip.Chip, blocks ...int) string {
	s := ""
	for _, b := range blocks {
		s += fmt.Sprintf("%d: %d %d %v", b, c.Wear(b), c.Next(b), c.Bad(b))
		for p := range api.Pages {
			x, err := c.Read(b, p)
			s += fmt.Sprintf(" %q %v", x, err)
		}
	}
	return s
}

// others: all blocks but one.
func others(but int) []int {
	var l []int
	for b := range api.Blocks {
		if b != but {
			l = append(l, b)
		}
	}
	return l
}

// laid: a chip whose block 3 has pages of these bytes.
func laid(t *testing.T, pages ...string) *chip.Chip {
	t.Helper()
	c := chip.New()
	for _, p := range pages {
		if err := c.Write(3, p); err != nil {
			t.Fatal(err)
		}
	}
	return c
}

// bytesOf entries that may be.
func bytesOf(t *testing.T, l ...api.Entry) string {
	t.Helper()
	s, err := entry.Bytes(l)
	if err != nil {
		t.Fatal(err)
	}
	return s
}

// wrong: lists that are refused, and how.
func wrong() map[string]struct {
	l    []api.Entry
	want error
} {
	type w = struct {
		l    []api.Entry
		want error
	}
	long := has("abcdefghi", "")
	return map[string]w{
		"nil":                           {nil, api.ErrMany},
		"none":                          {[]api.Entry{}, api.ErrMany},
		"one too many":                  {rising(Most + 1), api.ErrMany},
		"many too many":                 {slices.Repeat(rising(4), 100), api.ErrMany},
		"no key":                        {[]api.Entry{has("", "x")}, api.ErrShape},
		"gone with a value":             {[]api.Entry{has("a", ""), {Key: "b", Val: "x", Gone: true}}, api.ErrShape},
		"key too long":                  {[]api.Entry{has("a", ""), long}, api.ErrMany},
		"value too long":                {[]api.Entry{has("a", strings.Repeat("v", api.MaxVal+1))}, api.ErrMany},
		"a key twice":                   {[]api.Entry{has("a", "x"), has("a", "y")}, api.ErrShape},
		"falling":                       {[]api.Entry{has("b", "x"), has("a", "y")}, api.ErrShape},
		"falling at the end":            {append(rising(Most-1), has("a", "")), api.ErrShape},
		"a beginning behind":            {[]api.Entry{has("ab", "x"), has("a", "y")}, api.ErrShape},
		"the first one's: size":         {[]api.Entry{has("b", ""), long, has("a", "")}, api.ErrMany},
		"the first one's: order":        {[]api.Entry{has("b", ""), has("a", ""), long}, api.ErrShape},
		"an entry's own ahead of order": {[]api.Entry{has("b", ""), long}, api.ErrMany},
		"number ahead of no key":        {append([]api.Entry{has("", "hay")}, rising(Most)...), api.ErrMany},
		"number ahead of order":         {append(rising(Most), has("a", "")), api.ErrMany},
	}
}

func TestMost(t *testing.T) { // E1
	if Most != 14 {
		t.Errorf("%d", Most)
	}
}

func TestCheck(t *testing.T) { // E1, Z3
	for n := 1; n <= Most; n++ {
		if err := Check(rising(n)); err != nil {
			t.Errorf("%d entries: %v", n, err)
		}
	}
	for _, l := range [][]api.Entry{
		wide(Most),
		{gone("a"), gone("b")},
		{has("a", ""), has("a\x00", ""), has("aa", ""), has("b", ""), has("\xff", "")},
	} {
		if err := Check(l); err != nil {
			t.Errorf("%v: %v", l, err)
		}
	}
	for what, w := range wrong() {
		if err := Check(w.l); err != w.want {
			t.Errorf("%s: %v, not %v", what, err, w.want)
		}
	}
}

func TestWrite(t *testing.T) { // E1
	c := chip.New()
	l := []api.Entry{has("a", "hay"), gone("b"), has("c", "")}
	if err := Write(c, 3, l); err != nil {
		t.Fatal(err)
	}
	// The spots of a, b and c: 58 25, 59 26, 60 27.
	for p, want := range []string{"F\x00\x00\x00\x0e\x00\x00\x00\x1c", "\x02\x00\x01\x03ahay\x01\x01\x00b", "\x01\x00\x01\x00c"} {
		if s, err := c.Read(3, p); s != padded(want) || err != nil {
			t.Errorf("page %d: %q %v, not %q", p, s, err, want)
		}
	}
	if n := c.Next(3); n != 3 {
		t.Errorf("%d pages are written", n)
	}
}

func TestWriteOfEachSize(t *testing.T) { // E1, W5, W6
	for n := 1; n <= Most; n++ {
		for _, l := range [][]api.Entry{rising(n), wide(n)} {
			c := chip.New()
			_ = c.Write(3, "what was there")
			before := image(c, others(3)...)
			if err := Write(c, 3, l); err != nil {
				t.Fatalf("%d entries: %v", n, err)
			}
			var keys []string
			for _, e := range l {
				keys = append(keys, e.Key)
			}
			f := filter.Of(keys)
			head := "F"
			for range 8 {
				head += string([]byte{byte(f % 256)})
				f /= 256
			}
			want := []string{head}
			for i := 0; i < n; i += 2 {
				want = append(want, bytesOf(t, l[i:min(i+2, n)]...))
			}
			if c.Next(3) != len(want) || c.Wear(3) != 1 {
				t.Errorf("%d entries: %d pages, wear %d", n, c.Next(3), c.Wear(3))
			}
			for p, w := range want {
				if s, err := c.Read(3, p); s != padded(w) || err != nil {
					t.Errorf("%d entries, page %d: %q %v, not %q", n, p, s, err, w)
				}
			}
			if image(c, others(3)...) != before {
				t.Errorf("%d entries: another block has changed", n)
			}
			if all, err := All(c, 3); !slices.Equal(all, l) || err != nil {
				t.Errorf("%d entries: %v %v", n, all, err)
			}
		}
	}
}

func TestWriteAnew(t *testing.T) { // E1, W6
	c := chip.New()
	for i, n := range []int{Most, 1, 5, Most, 2} {
		l := rising(n)
		if err := Write(c, 3, l); err != nil {
			t.Fatal(err)
		}
		if all, err := All(c, 3); !slices.Equal(all, l) || err != nil || c.Wear(3) != i+1 {
			t.Errorf("%d entries: %v %v, wear %d", n, all, err, c.Wear(3))
		}
	}
}

func TestWriteRefuses(t *testing.T) { // E1, Z1, Z3
	for what, w := range wrong() {
		c := laid(t, "what was there")
		_ = c.Weaken(3) // which it is not told of, as no step is begun
		before := image(c, 3)
		if err := Write(c, 3, w.l); err != w.want || image(c, 3) != before {
			t.Errorf("%s: %v, not %v", what, err, w.want)
		}
		c.Arm(0)
		_ = c.Erase(4)
		if err := Write(c, -1, w.l); err != w.want {
			t.Errorf("%s, the machine is down: %v, not %v", what, err, w.want)
		}
	}
}

func TestWriteToBlocksThatCannotBe(t *testing.T) { // E1, Z1
	for _, b := range []int{-1, api.Blocks, math.MaxInt, math.MinInt} {
		if err := Write(chip.New(), b, rising(3)); err != api.ErrBound {
			t.Errorf("block %d: %v", b, err)
		}
	}
	c := laid(t, "what was there")
	_ = c.Weaken(3)
	for range 2 {
		if err := Write(c, 3, rising(3)); err != api.ErrBad || !c.Bad(3) {
			t.Errorf("a weak block: %v", err)
		}
	}
	if s, err := c.Read(3, 0); s != padded("what was there") || err != nil {
		t.Errorf("what a bad block had: %q %v", s, err)
	}
}

func TestWriteFalls(t *testing.T) { // E1, Z1
	l := rising(5) // an erasing, and four pages
	for n := range 5 {
		for how := range 3 {
			c := laid(t, "what was there")
			before := image(c, others(3)...)
			c.Arm(n)
			if err := Write(c, 3, l); err != api.ErrDown || !c.Down() {
				t.Errorf("a fall behind %d steps: %v", n, err)
			}
			if all, err := All(c, 3); all != nil || err != api.ErrDown {
				t.Errorf("All of a chip that is down: %v %v", all, err)
			}
			if e, is, err := Get(c, 3, "kA"); e != (api.Entry{}) || is || err != api.ErrDown {
				t.Errorf("Get of a chip that is down: %v %v %v", e, is, err)
			}
			c.Restart(how)
			if all, err := All(c, 3); err == nil && !slices.Equal(all, l[:len(all)]) {
				t.Errorf("a fall behind %d steps, %d: %v", n, how, all)
			}
			if image(c, others(3)...) != before {
				t.Errorf("a fall behind %d steps, %d: another block has changed", n, how)
			}
			if err := Write(c, 3, l); err != nil {
				t.Errorf("written anew: %v", err)
			}
			if all, err := All(c, 3); !slices.Equal(all, l) || err != nil {
				t.Errorf("written anew: %v %v", all, err)
			}
		}
	}
	c := chip.New()
	c.Arm(5)
	if err := Write(c, 3, l); err != nil {
		t.Errorf("five steps that go well: %v", err)
	}
}

func TestAllRefuses(t *testing.T) { // E2, Z1, Z3
	one, two := bytesOf(t, has("b", "x")), bytesOf(t, has("a", "x"))
	full := []string{"F"}
	for i := range api.Pages - 1 {
		full = append(full, bytesOf(t, has(fmt.Sprint(i, "a"), ""), has(fmt.Sprint(i, "b"), ""), has(fmt.Sprint(i, "c"), "")))
	}
	for what, w := range map[string]struct {
		pages []string
		want  error
	}{
		"blank":                         {nil, api.ErrNone},
		"no mark":                       {[]string{"", one}, api.ErrText},
		"another mark":                  {[]string{"f", one}, api.ErrText},
		"the mark elsewhere":            {[]string{"\x00F", one}, api.ErrText},
		"no entries":                    {[]string{"F"}, api.ErrText},
		"a page of no entries":          {[]string{"F", "\x00"}, api.ErrText},
		"no entries can be read":        {[]string{"F", one, "\x01"}, api.ErrText},
		"bytes behind an entry":         {[]string{"F", one + "x"}, api.ErrText},
		"falling":                       {[]string{"F", one, two}, api.ErrText},
		"a key twice":                   {[]string{"F", one, one}, api.ErrText},
		"falling on a page":             {[]string{"F", bytesOf(t, has("b", ""), has("a", ""))}, api.ErrText},
		"more than Most":                {full, api.ErrText},
		"the entries' page comes first": {[]string{one, "F"}, api.ErrText},
	} {
		if l, err := All(laid(t, w.pages...), 3); l != nil || err != w.want {
			t.Errorf("%s: %v %v, not %v", what, l, err, w.want)
		}
	}
	for _, b := range []int{-1, api.Blocks, math.MaxInt, math.MinInt} {
		if l, err := All(chip.New(), b); l != nil || err != api.ErrBound {
			t.Errorf("block %d: %v %v", b, l, err)
		}
	}
}

func TestAllOfTornPages(t *testing.T) { // E2
	for torn := range 4 {
		c := chip.New()
		for p := range 4 {
			s := "F"
			if p > 0 {
				s = bytesOf(t, has(string(rune('a'+p)), "x"))
			}
			if p == torn {
				c.Arm(0)
				_ = c.Write(3, s)
				c.Restart(1)
				continue
			}
			_ = c.Write(3, s)
		}
		if l, err := All(c, 3); l != nil || err != api.ErrText {
			t.Errorf("page %d is torn: %v %v", torn, l, err)
		}
	}
}

func TestAllOfWhatMayBe(t *testing.T) { // E2
	for what, w := range map[string]struct {
		pages []string
		want  []api.Entry
	}{
		"a filter that has none of the keys": {[]string{"F", bytesOf(t, has("a", "x"))}, []api.Entry{has("a", "x")}},
		"bytes behind the filter":            {[]string{"F" + strings.Repeat("x", api.Page-1), bytesOf(t, gone("a"))}, []api.Entry{gone("a")}},
		"pages of none, one and three":       {[]string{"F", "", bytesOf(t, has("a", "")), bytesOf(t, has("b", ""), gone("c"), has("d", ""))}, []api.Entry{has("a", ""), has("b", ""), gone("c"), has("d", "")}},
	} {
		if l, err := All(laid(t, w.pages...), 3); !slices.Equal(l, w.want) || err != nil {
			t.Errorf("%s: %v %v, not %v", what, l, err, w.want)
		}
	}
}

func TestGet(t *testing.T) { // E2, W5, W6
	for n := 1; n <= Most; n++ {
		c, l := chip.New(), rising(n)
		if err := Write(c, 3, l); err != nil {
			t.Fatal(err)
		}
		before := image(c, 3)
		for _, e := range l {
			if got, is, err := Get(c, 3, e.Key); got != e || !is || err != nil {
				t.Errorf("%d entries, %q: %v %v %v", n, e.Key, got, is, err)
			}
		}
		for _, k := range strangers(l) {
			if got, is, err := Get(c, 3, k); got != (api.Entry{}) || is || err != nil {
				t.Errorf("%d entries, %q: %v %v %v", n, k, got, is, err)
			}
		}
		if image(c, 3) != before {
			t.Errorf("%d entries: reading has changed them", n)
		}
	}
}

// strangers: keys that no entry has, among them ones at each place between two, and ones that the filter lets by.
func strangers(l []api.Entry) []string {
	var keys []string
	for _, e := range l {
		keys = append(keys, e.Key)
	}
	f := filter.Of(keys)
	out := []string{"", "a", "zz", "\xff", strings.Repeat("k", 100)}
	for _, k := range keys {
		for i := range 256 {
			near := k[:1] + string([]byte{k[1] - byte(i%2), byte(i)})
			if filter.May(f, near) || i < 4 {
				out = append(out, near)
			}
		}
	}
	return out
}

func TestGetOfBadBlocks(t *testing.T) { // E2, W5
	c, l := chip.New(), rising(Most)
	if err := Write(c, 3, l); err != nil {
		t.Fatal(err)
	}
	_ = c.Weaken(3)
	_ = c.Erase(3)
	if e, is, err := Get(c, 3, l[4].Key); e != l[4] || !is || err != nil || !c.Bad(3) {
		t.Errorf("what a bad block has: %v %v %v", e, is, err)
	}
}

func TestGetTellsErrors(t *testing.T) { // E2, Z1
	for _, b := range []int{-1, api.Blocks, math.MaxInt, math.MinInt} {
		if e, is, err := Get(chip.New(), b, "a"); e != (api.Entry{}) || is || err != api.ErrBound {
			t.Errorf("block %d: %v %v %v", b, e, is, err)
		}
	}
	all := "F" + strings.Repeat("\xff", 8)
	for what, pages := range map[string][]string{
		"blank":           nil,
		"no mark":         {"x"},
		"no entries":      {all, "\x01"},
		"empty pages":     {all, "", "", ""},
		"in no order":     {all, bytesOf(t, has("z", ""), has("b", "")), bytesOf(t, has("a", ""))},
		"the filter only": {all},
	} {
		if e, is, err := Get(laid(t, pages...), 3, "q"); e != (api.Entry{}) || is {
			t.Errorf("%s: %v %v %v", what, e, is, err)
		}
	}
}

func TestDrawnTables(t *testing.T) { // E1, E2, W6
	r := rand.New(rand.NewSource(5))
	c := chip.New()
	for range 300 {
		b := r.Intn(api.Blocks)
		var l []api.Entry
		for k := 'a'; k <= 'z' && len(l) < Most; k++ {
			if r.Intn(3) == 0 {
				l = append(l, has(string(k)+strings.Repeat("\x00", r.Intn(api.MaxKey)), strings.Repeat("\x00", r.Intn(api.MaxVal+1))))
			}
		}
		if len(l) == 0 {
			continue
		}
		if err := Write(c, b, l); err != nil {
			t.Fatal(err)
		}
		if all, err := All(c, b); !slices.Equal(all, l) || err != nil {
			t.Fatalf("%v: %v %v", l, all, err)
		}
		for _, e := range l {
			if got, is, err := Get(c, b, e.Key); got != e || !is || err != nil {
				t.Fatalf("%v, %q: %v %v %v", l, e.Key, got, is, err)
			}
		}
	}
}

func TestListsAreNotKept(t *testing.T) { // E1, E2, Z2
	c, whole := chip.New(), rising(6)
	l := whole[:3]
	if err := Write(c, 3, l); err != nil {
		t.Fatal(err)
	}
	if !slices.Equal(whole, rising(6)) {
		t.Errorf("what was handed in has changed: %v", whole)
	}
	l[0] = has("q", "q")
	all, _ := All(c, 3)
	all[1] = has("q", "q")
	if all, err := All(c, 3); !slices.Equal(all, rising(3)) || err != nil {
		t.Errorf("%v %v", all, err)
	}
}
