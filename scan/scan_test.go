package scan

import (
	"fmt"
	"math"
	"math/rand"
	"slices"
	"strings"
	"testing"

	"tidegate/api"
	"tidegate/chip"
	"tidegate/store"
)

// made: a store on a new chip, to which batches were written: of each KEY=VAL, or KEY alone; a batch ! is a Flush.
func made(t *testing.T, batches ...string) (*chip.Chip, *store.Store) {
	t.Helper()
	c := chip.New()
	ok(t, store.Format(c))
	s, err := store.Open(c)
	ok(t, err)
	for _, b := range batches {
		if b == "!" {
			ok(t, s.Flush())
			continue
		}
		ok(t, s.Write(changes(b)))
	}
	return c, s
}

// ok: an error is none.
func ok(t *testing.T, err error) {
	t.Helper()
	if err != nil {
		t.Fatal(err)
	}
}

// changes of a text.
func changes(text string) []api.Entry {
	var l []api.Entry
	for _, w := range strings.Fields(text) {
		k, v, is := strings.Cut(w, "=")
		l = append(l, api.Entry{Key: k, Val: v, Gone: !is})
	}
	return l
}

// text of rows; one that is gone would be told by !.
func text(l []api.Entry) string {
	var out []string
	for _, e := range l {
		w := e.Key + "=" + e.Val
		if e.Gone {
			w += "!"
		}
		out = append(out, w)
	}
	return strings.Join(out, " ")
}

// field: rows at hand, in a new table and in an old one, some of them changed, one gone.
var field = []string{"a=hay b=oats", "!", "k1=x k2=y k3=z", "!", "c=1 d=2", "!", "b a=straw", "!", "k3=w e="}

const fieldRows = "a=straw c=1 d=2 e= k1=x k2=y k3=w"

func TestPage(t *testing.T) { // I1
	_, s := made(t, field...)
	for _, c := range []struct {
		after string
		many  int
		want  string
	}{
		{"", 100, fieldRows},
		{"", 7, fieldRows},
		{"", 6, "a=straw c=1 d=2 e= k1=x k2=y"},
		{"", 1, "a=straw"},
		{"", 0, ""},
		{"", -1, ""},
		{"", math.MinInt, ""},
		{"", math.MaxInt, fieldRows},
		{"a", 2, "c=1 d=2"},
		{"b", 2, "c=1 d=2"}, // a key that is gone
		{"aa", 1, "c=1"},    // one that never was
		{"A", 1, "a=straw"},
		{"k", 9, "k1=x k2=y k3=w"},
		{"k1", 9, "k2=y k3=w"},
		{"k1\x00", 9, "k2=y k3=w"},
		{"k2", 1, "k3=w"},
		{"k2", math.MaxInt, "k3=w"},
		{"k3", 1, ""},
		{"k3", 0, ""},
		{"k3", math.MaxInt, ""},
		{"zz", 9, ""},
		{"\xff\xff", 9, ""},
		{strings.Repeat("a", 100), 1, "c=1"}, // longer than a key may be
	} {
		if got, err := Page(s, c.after, c.many); text(got) != c.want || err != nil {
			t.Errorf("%d behind %q: %s %v, not %s", c.many, c.after, text(got), err, c.want)
		}
	}
}

func TestBetween(t *testing.T) { // I1
	_, s := made(t, field...)
	for _, c := range []struct{ from, to, want string }{
		{"", "", "k3=w k2=y k1=x e= d=2 c=1 a=straw"},
		{"a", "", "k3=w k2=y k1=x e= d=2 c=1 a=straw"},
		{"a\x00", "", "k3=w k2=y k1=x e= d=2 c=1"},
		{"", "a", ""},
		{"", "a\x00", "a=straw"},
		{"a", "c", "a=straw"},
		{"a", "d", "c=1 a=straw"},
		{"b", "c", ""}, // a key that is gone
		{"c", "k2", "k1=x e= d=2 c=1"},
		{"k1", "k3", "k2=y k1=x"},
		{"k", "l", "k3=w k2=y k1=x"},
		{"k3", "", "k3=w"},
		{"k4", "", ""},
		{"c", "c", ""},
		{"d", "c", ""}, // the wrong way round
		{"zz", "a", ""},
		{"k3", "a", ""},
		{"zz", "zzz", ""},
		{"", strings.Repeat("z", 100), "k3=w k2=y k1=x e= d=2 c=1 a=straw"},
		{strings.Repeat("k", 100), "\xff", ""},
	} {
		if got, err := Between(s, c.from, c.to); text(got) != c.want || err != nil {
			t.Errorf("from %q to %q: %s %v, not %s", c.from, c.to, text(got), err, c.want)
		}
	}
}

func TestNoRows(t *testing.T) { // I1
	for _, batches := range [][]string{nil, {"!"}, {"a=hay", "a"}, {"a=hay", "!", "a"}, {"a=hay", "!", "a", "!"}} {
		_, s := made(t, batches...)
		if l, err := Page(s, "", 9); len(l) != 0 || err != nil {
			t.Errorf("%q: a page: %v %v", batches, l, err)
		}
		if l, err := Between(s, "", ""); len(l) != 0 || err != nil {
			t.Errorf("%q: between: %v %v", batches, l, err)
		}
	}
}

// Keys are compared as bytes: neither as letters nor by their lengths.
func TestKeysAreBytes(t *testing.T) { // I1, Z3
	keys := []string{"\x00", "\x00\x00", "A", "Z", "a", "a\x00", "aa", "b", "ä", "\x80", "\xff", "\xff\x00"}
	slices.Sort(keys)
	_, s := made(t)
	for _, k := range keys {
		ok(t, s.Write([]api.Entry{{Key: k, Val: "x"}}))
	}
	for i, k := range keys {
		l, err := Page(s, k, 99)
		if got := keysOf(l); !slices.Equal(got, keys[i+1:]) || err != nil {
			t.Errorf("behind %q: %q %v", k, got, err)
		}
		for j, to := range keys {
			want := slices.Clone(keys[min(i, j):j])
			slices.Reverse(want)
			l, err := Between(s, k, to)
			if got := keysOf(l); !slices.Equal(got, want) || err != nil {
				t.Errorf("from %q to %q: %q %v", k, to, got, err)
			}
		}
	}
}

func keysOf(l []api.Entry) []string {
	var out []string
	for _, e := range l {
		out = append(out, e.Key)
	}
	return out
}

// One page behind the other: together they are all rows, each once, however many a page has.
func TestPagesOneBehindTheOther(t *testing.T) { // I1
	var batches []string
	for i := range api.MaxKeys {
		batches = append(batches, fmt.Sprintf("k%d=%d", i*7%api.MaxKeys, i))
	}
	_, s := made(t, batches...)
	all, err := s.Rows()
	ok(t, err)
	if len(all) != api.MaxKeys {
		t.Fatalf("%d rows", len(all))
	}
	for many := 1; many <= api.MaxKeys+1; many++ {
		var got []api.Entry
		after, pages := "", 0
		for {
			l, err := Page(s, after, many)
			ok(t, err)
			if len(l) == 0 {
				break
			}
			if len(l) != min(many, len(all)-len(got)) {
				t.Fatalf("pages of %d: one of %d behind %d rows", many, len(l), len(got))
			}
			got = append(got, l...)
			after = l[len(l)-1].Key
			if pages++; pages > len(all) {
				t.Fatalf("pages of %d: no end", many)
			}
		}
		if !slices.Equal(got, all) {
			t.Errorf("pages of %d: %s", many, text(got))
		}
	}
}

// What a plain list of rows says, whatever was changed, laid and put together meanwhile.
func TestAgainstAPlainList(t *testing.T) { // I1, W1
	r := rand.New(rand.NewSource(9))
	key := func() string { return []string{"", "a", "k", "k9", "zz", fmt.Sprintf("k%d", r.Intn(30))}[r.Intn(6)] }
	for range 20 {
		_, s := made(t)
		for range 40 {
			e := api.Entry{Key: fmt.Sprintf("k%d", r.Intn(30)), Val: fmt.Sprint(r.Intn(9))}
			if r.Intn(4) == 0 {
				e.Val, e.Gone = "", true
			}
			ok(t, s.Write([]api.Entry{e}))
			switch r.Intn(9) {
			case 0:
				ok(t, s.Flush())
			case 1:
				ok(t, s.Compact())
			}
			after, many, from, to := key(), r.Intn(12)-2, key(), key()
			all, err := s.Rows()
			ok(t, err)
			var page, between []api.Entry
			for _, e := range all {
				if e.Key > after && len(page) < many {
					page = append(page, e)
				}
				if e.Key >= from && (to == "" || e.Key < to) {
					between = append([]api.Entry{e}, between...)
				}
			}
			if l, err := Page(s, after, many); !slices.Equal(l, page) || err != nil {
				t.Fatalf("%d behind %q of %s: %s %v", many, after, text(all), text(l), err)
			}
			if l, err := Between(s, from, to); !slices.Equal(l, between) || err != nil {
				t.Fatalf("from %q to %q of %s: %s %v", from, to, text(all), text(l), err)
			}
		}
	}
}

func TestTheMachineIsDown(t *testing.T) { // I1, Z1, Z3
	c, s := made(t, field...)
	c.Arm(0)
	if err := s.Flush(); err != api.ErrDown {
		t.Fatal(err)
	}
	for _, many := range []int{9, 1, 0, -1} {
		if l, err := Page(s, "", many); len(l) != 0 || err != api.ErrDown {
			t.Errorf("a page of %d: %v %v", many, l, err)
		}
	}
	for _, to := range []string{"", "k", "a"} {
		if l, err := Between(s, "b", to); len(l) != 0 || err != api.ErrDown {
			t.Errorf("between b and %q: %v %v", to, l, err)
		}
	}
	c.Restart(1)
	s, err := store.Open(c)
	ok(t, err)
	if l, err := Page(s, "", 9); text(l) != fieldRows || err != nil {
		t.Errorf("opened anew: %s %v", text(l), err)
	}
}

// Reading is no step: it changes nothing of the chip.
func TestNothingIsChanged(t *testing.T) { // I1
	c, s := made(t, field...)
	before := image(c)
	c.Arm(0)
	for range 3 {
		_, err := Page(s, "a", 3)
		ok(t, err)
		_, err = Between(s, "a", "k")
		ok(t, err)
	}
	if c.Down() || image(c) != before {
		t.Error("the chip is changed")
	}
}

// image of a chip: all that can be seen of it.
func image(c *chip.Chip) string {
	var s strings.Builder
	for b := range api.Blocks {
		fmt.Fprintf(&s, "%d: %d %d %v", b, c.Wear(b), c.Next(b), c.Bad(b))
		for p := range api.Pages {
			x, err := c.Read(b, p)
			fmt.Fprintf(&s, " %q %v", x, err)
		}
	}
	return s.String()
}

func TestAnswersAreTheCallers(t *testing.T) { // Z2
	_, s := made(t, field...)
	for what, call := range map[string]func() ([]api.Entry, error){
		"page":    func() ([]api.Entry, error) { return Page(s, "a", 3) },
		"between": func() ([]api.Entry, error) { return Between(s, "c", "k2") },
	} {
		first, err := call()
		ok(t, err)
		want := text(first)
		second, err := call()
		ok(t, err)
		for i := range first {
			first[i] = api.Entry{Key: "other"}
		}
		_ = append(first, api.Entry{Key: "other"})
		if text(second) != want {
			t.Errorf("%s: two answers share memory: %s", what, text(second))
		}
		if third, err := call(); text(third) != want || err != nil {
			t.Errorf("%s: the store is changed by its answer: %s %v", what, text(third), err)
		}
	}
}
