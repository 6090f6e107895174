package batch

import (
	"fmt"
	"math/rand"
	"regexp"
	"slices"
	"strings"
	"testing"

	"tidegate/api"
)

// has an entry of that key; gone is one that is no more.
func has(key, val string) api.Entry { return api.Entry{Key: key, Val: val} }
func gone(key string) api.Entry     { return api.Entry{Key: key, Gone: true} }

// wide: an entry as long as one may be.
func wide() api.Entry { return has(strings.Repeat("k", api.MaxKey), strings.Repeat("v", api.MaxVal)) }

const wideText = "kkkkkkkk=vvvvvvvvvvvvvvvv"

// pairs of changes and their texts.
var pairs = []struct {
	l    []api.Entry
	text string
}{
	{[]api.Entry{has("a", "hay")}, "a=hay"},
	{[]api.Entry{has("a", "")}, "a="},
	{[]api.Entry{gone("a")}, "a"},
	{[]api.Entry{has("a", "hay"), has("b", "oats")}, "a=hay b=oats"},
	{[]api.Entry{gone("c"), has("c", "2"), gone("c")}, "c c=2 c"}, // in the order given, a key more than once
	{[]api.Entry{has("b", "1"), has("a", "2")}, "b=1 a=2"},
	{[]api.Entry{has("z9", ""), gone("0"), has("0", "0"), has("az09", "09az")}, "z9= 0 0=0 az09=09az"},
	{[]api.Entry{has("00", "007")}, "00=007"},
	{[]api.Entry{has("a", ""), gone("x")}, "a= x"}, // no value, not one that begins with a blank
	{[]api.Entry{wide()}, wideText},
	{[]api.Entry{gone("abcdefgh"), wide()}, "abcdefgh " + wideText},
	{[]api.Entry{wide(), wide(), wide(), wide()}, wideText + " " + wideText + " " + wideText + " " + wideText}, // more than a page, more than a line
	{[]api.Entry{gone("a"), gone("a"), gone("a"), gone("a")}, "a a a a"},
}

func TestText(t *testing.T) { // J1
	for _, c := range pairs {
		if got, err := Text(c.l); got != c.text || err != nil {
			t.Errorf("%v: %q %v, not %q", c.l, got, err, c.text)
		}
	}
}

func TestParse(t *testing.T) { // J1, W6
	for _, c := range pairs {
		if got, err := Parse(c.text); !slices.Equal(got, c.l) || err != nil {
			t.Errorf("%q: %v %v, not %v", c.text, got, err, c.l)
		}
	}
}

func TestTextRefuses(t *testing.T) { // J1, Z1, Z3
	long, big := has("abcdefghi", ""), has("a", strings.Repeat("v", api.MaxVal+1))
	upper, blank := has("A", "x"), has("a", "x y")
	for _, c := range []struct {
		what string
		l    []api.Entry
		want error
	}{
		{"nil", nil, api.ErrMany},
		{"none", []api.Entry{}, api.ErrMany},
		{"five", slices.Repeat([]api.Entry{has("a", "x")}, api.MaxBatch+1), api.ErrMany},
		{"many", slices.Repeat([]api.Entry{has("a", "x")}, 256), api.ErrMany},
		{"five that may not be", slices.Repeat([]api.Entry{has("", "x")}, api.MaxBatch+1), api.ErrMany},
		{"no key", []api.Entry{has("", "x")}, api.ErrShape},
		{"no key, gone", []api.Entry{gone("")}, api.ErrShape},
		{"zero", []api.Entry{{}}, api.ErrShape},
		{"gone with a value", []api.Entry{{Key: "a", Val: "x", Gone: true}}, api.ErrShape},
		{"key too long", []api.Entry{long}, api.ErrMany},
		{"key too long, gone", []api.Entry{gone("abcdefghi")}, api.ErrMany},
		{"value too long", []api.Entry{big}, api.ErrMany},
		{"a great letter", []api.Entry{upper}, api.ErrShape},
		{"a blank", []api.Entry{blank}, api.ErrShape},
		{"a great letter, gone", []api.Entry{gone("A")}, api.ErrShape},
		{"=", []api.Entry{has("a", "b=c")}, api.ErrShape},
		{"a letter of two bytes", []api.Entry{has("a", "ä")}, api.ErrShape},
		{"the last one", []api.Entry{has("a", "x"), gone("b"), has("c", ""), blank}, api.ErrShape},
		{"too long ahead of its bytes", []api.Entry{has("ABCDEFGHI", "")}, api.ErrMany},
		{"the first one's, size", []api.Entry{long, upper}, api.ErrMany},
		{"the first one's, bytes", []api.Entry{upper, long}, api.ErrShape},
		{"the first one's, a value's bytes", []api.Entry{blank, big}, api.ErrShape},
		{"the first one's, shape", []api.Entry{has("", "x"), big}, api.ErrShape},
	} {
		if got, err := Text(c.l); got != "" || err != c.want {
			t.Errorf("%s: %q %v, not %v", c.what, got, err, c.want)
		}
	}
}

// Of all bytes just those of a to z and 0 to 9 may be, wherever they stand.
func TestEachByte(t *testing.T) { // J1
	const may = "abcdefghijklmnopqrstuvwxyz0123456789"
	for b := range 256 {
		c := string([]byte{byte(b)})
		for _, at := range []string{"", "x", "xy"} {
			for _, behind := range []string{"", "z"} {
				w := at + c + behind
				for _, e := range []api.Entry{has(w, ""), has("k", w), gone(w)} {
					want, wantErr := e.Key, error(nil)
					if !e.Gone {
						want += "=" + e.Val
					}
					if !strings.Contains(may, c) {
						want, wantErr = "", api.ErrShape
					}
					if got, err := Text([]api.Entry{e}); got != want || err != wantErr {
						t.Errorf("%v: %q %v, not %q %v", e, got, err, want, wantErr)
					}
				}
			}
		}
	}
}

func TestParseRefuses(t *testing.T) { // J1, Z1, Z3
	for _, s := range []string{
		"", " ", "  ", "=", "=x", "==", "a==", "a==b", "a=b=c", "a=b=", " a", "a ", "a=x ", "a  b", "a=x  b=y", "a =x", "a=x =",
		"A", "a=X", "a\tb", "a=x\n", "\n", "a\x00", "a=x\x00", "a,b", "a;b", "a=-1", "a=+", "ä", "a=ä", "a\xff", "a\u00a0b", "-",
		"a b c d e", "a=1 b=2 c=3 d=4 e=5", "a b c d ", " a b c d", "a b c d  ", "a b c d =",
		"abcdefghi", "abcdefghi=x", "a=" + strings.Repeat("v", api.MaxVal+1), "b a=" + strings.Repeat("v", api.MaxVal+1),
		strings.Repeat("a ", 1<<20), strings.Repeat(" ", 1<<20), strings.Repeat("=", 1<<20), strings.Repeat("a", 1<<20), "a=" + strings.Repeat("b", 1<<20),
	} {
		if got, err := Parse(s); len(got) != 0 || err != api.ErrText {
			t.Errorf("%.40q: %v %v", s, got, err)
		}
	}
}

// form of a text, told in another way.
var form = regexp.MustCompile(`^[a-z0-9]{1,8}(=[a-z0-9]{0,16})?( [a-z0-9]{1,8}(=[a-z0-9]{0,16})?){0,3}$`)

// holds: a text is refused, or read as changes of which it is the text.
func holds(t *testing.T, s string) {
	t.Helper()
	l, err := Parse(s)
	if !form.MatchString(s) {
		if len(l) != 0 || err != api.ErrText {
			t.Fatalf("%q: %v %v", s, l, err)
		}
		return
	}
	if back, e := Text(l); back != s || e != nil || err != nil {
		t.Fatalf("%q: %v %v, whose text is %q %v", s, l, err, back, e)
	}
	for i, w := range strings.Split(s, " ") {
		if l[i].Gone == strings.Contains(w, "=") {
			t.Fatalf("%q: %v", s, l)
		}
	}
}

func TestAllShortTexts(t *testing.T) { // J1, Z1, W6
	var grow func(s string, left int)
	grow = func(s string, left int) {
		holds(t, s)
		for _, c := range []string{"a", "7", "=", " ", "B"} {
			if left > 0 {
				grow(s+c, left-1)
			}
		}
	}
	grow("", 7)
}

func TestTextsOfOtherBytes(t *testing.T) { // J1, Z1
	for _, c := range pairs {
		for i := range len(c.text) + 1 {
			for b := range 256 {
				x := string([]byte{byte(b)})
				holds(t, c.text[:i]+x+c.text[i:])
				if i < len(c.text) {
					holds(t, c.text[:i]+x+c.text[i+1:])
				}
			}
			holds(t, c.text[:i])
			holds(t, c.text[i:])
		}
	}
}

// Changes that are written as a text are the same when they are read again.
func TestParseOfText(t *testing.T) { // J1, W6
	r := rand.New(rand.NewSource(10))
	word := func(least, most int) string {
		b := make([]byte, least+r.Intn(most-least+1))
		for i := range b {
			b[i] = "abcdefghijklmnopqrstuvwxyz0123456789"[r.Intn(36)]
		}
		return string(b)
	}
	for range 3000 {
		var l []api.Entry
		for range 1 + r.Intn(api.MaxBatch) {
			e := has(word(1, api.MaxKey), word(0, api.MaxVal))
			if r.Intn(3) == 0 {
				e = gone(e.Key)
			}
			l = append(l, e)
		}
		s, err := Text(l)
		if err != nil {
			t.Fatal(l, err)
		}
		if got, err := Parse(s); !slices.Equal(got, l) || err != nil {
			t.Fatalf("%v: %q: %v %v", l, s, got, err)
		}
	}
}

func TestListsAreTheirOwners(t *testing.T) { // Z2
	under := []api.Entry{has("a", "x"), gone("b"), has("", "may not be")}
	before := fmt.Sprint(under)
	if s, err := Text(under[:2]); s != "a=x b" || err != nil {
		t.Errorf("what stands behind the list is read: %q %v", s, err)
	}
	if fmt.Sprint(under) != before {
		t.Errorf("the list is written into: %v", under)
	}
	first, _ := Parse("a=x b")
	second, _ := Parse("a=x b")
	first[0] = has("z", "other")
	_ = append(first[:1], has("z", "other"))
	if !slices.Equal(second, under[:2]) {
		t.Errorf("two answers share memory: %v", second)
	}
}
