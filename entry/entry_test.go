package entry

import (
	"slices"
	"strings"
	"testing"

	"tidegate/api"
)

// has an entry of that key; gone is one that is no more.
func has(key, val string) api.Entry { return api.Entry{Key: key, Val: val} }
func gone(key string) api.Entry     { return api.Entry{Key: key, Gone: true} }

// raw bytes of entries, whether they may be or not.
func raw(l ...api.Entry) string {
	s := string([]byte{byte(len(l))})
	for _, e := range l {
		g := byte(0)
		if e.Gone {
			g = 1
		}
		s += string([]byte{g, byte(len(e.Key)), byte(len(e.Val))}) + e.Key + e.Val
	}
	return s
}

// wide: an entry as long as one may be, of 27 bytes.
func wide() api.Entry { return has(strings.Repeat("k", api.MaxKey), strings.Repeat("v", api.MaxVal)) }

func TestCheck(t *testing.T) { // A1
	long, longer := strings.Repeat("k", api.MaxKey), strings.Repeat("k", api.MaxKey+1)
	big, bigger := strings.Repeat("v", api.MaxVal), strings.Repeat("v", api.MaxVal+1)
	for _, c := range []struct {
		what string
		e    api.Entry
		want error
	}{
		{"plain", has("a", "hay"), nil},
		{"no value", has("a", ""), nil},
		{"gone", gone("a"), nil},
		{"longest key", has(long, ""), nil},
		{"longest key, gone", gone(long), nil},
		{"longest value", has("a", big), nil},
		{"longest of both", has(long, big), nil},
		{"bytes of all kinds", has("\x00\xff =", "\x00\n\xfe"), nil},
		{"zero", api.Entry{}, api.ErrShape},
		{"no key", has("", "x"), api.ErrShape},
		{"no key, gone", gone(""), api.ErrShape},
		{"gone with a value", api.Entry{Key: "a", Val: "x", Gone: true}, api.ErrShape},
		{"key too long", has(longer, ""), api.ErrMany},
		{"key too long, gone", gone(longer), api.ErrMany},
		{"value too long", has("a", bigger), api.ErrMany},
		{"runes are counted by bytes", has("äääää", ""), api.ErrMany},
		{"shape ahead of size: no key", has("", bigger), api.ErrShape},
		{"shape ahead of size: gone", api.Entry{Key: longer, Val: bigger, Gone: true}, api.ErrShape},
	} {
		if got := Check(c.e); got != c.want {
			t.Errorf("%s: %v, not %v", c.what, got, c.want)
		}
	}
}

func TestBytes(t *testing.T) { // A2
	for _, c := range []struct {
		what string
		l    []api.Entry
		want string
	}{
		{"nil", nil, "\x00"},
		{"none", []api.Entry{}, "\x00"},
		{"one", []api.Entry{has("a", "hay")}, "\x01\x00\x01\x03ahay"},
		{"gone", []api.Entry{gone("bc")}, "\x01\x01\x02\x00bc"},
		{"no value", []api.Entry{has("bc", "")}, "\x01\x00\x02\x00bc"},
		{"in the order given, a key twice", []api.Entry{has("b", "x"), gone("a"), has("b", "yz")}, "\x03\x00\x01\x01bx\x01\x01\x00a\x00\x01\x02byz"},
		{"bytes of all kinds", []api.Entry{has("\x00", "\xff\x00")}, "\x01\x00\x01\x02\x00\xff\x00"},
	} {
		if got, err := Bytes(c.l); got != c.want || err != nil {
			t.Errorf("%s: %q %v, not %q", c.what, got, err, c.want)
		}
	}
}

func TestBytesFillAPage(t *testing.T) { // A2
	full := []api.Entry{wide(), wide(), has("abcdef", "")} // 1 + 27 + 27 + 9 bytes
	if s, err := Bytes(full); len(s) != api.Page || s != raw(full...) || err != nil {
		t.Errorf("a full page: %q %v", s, err)
	}
	small := slices.Repeat([]api.Entry{gone("a")}, 15) // 1 + 15 * 4 bytes
	if s, err := Bytes(small); s != raw(small...) || err != nil {
		t.Errorf("as many as may be: %q %v", s, err)
	}
}

func TestBytesRefuses(t *testing.T) { // A2, Z1, Z3
	shape, many := has("", "x"), has("abcdefghi", "")
	for _, c := range []struct {
		what string
		l    []api.Entry
		want error
	}{
		{"one byte too many", []api.Entry{wide(), wide(), has("abcdefg", "")}, api.ErrMany},
		{"three wide ones", []api.Entry{wide(), wide(), wide()}, api.ErrMany},
		{"sixteen small ones", slices.Repeat([]api.Entry{gone("a")}, 16), api.ErrMany},
		{"255", slices.Repeat([]api.Entry{gone("a")}, 255), api.ErrMany},
		{"256, whose number is 0 in a byte", slices.Repeat([]api.Entry{gone("a")}, 256), api.ErrMany},
		{"257, whose number is 1 in a byte", slices.Repeat([]api.Entry{gone("a")}, 257), api.ErrMany},
		{"shape", []api.Entry{has("a", "x"), shape}, api.ErrShape},
		{"size", []api.Entry{has("a", "x"), many}, api.ErrMany},
		{"the first one's, size", []api.Entry{many, shape}, api.ErrMany},
		{"the first one's, shape", []api.Entry{shape, many}, api.ErrShape},
		{"an entry's ahead of the page's", []api.Entry{wide(), wide(), wide(), shape}, api.ErrShape},
	} {
		if got, err := Bytes(c.l); got != "" || err != c.want {
			t.Errorf("%s: %q %v, not %v", c.what, got, err, c.want)
		}
	}
}

func TestParse(t *testing.T) { // A2, W6
	full := []api.Entry{wide(), wide(), has("abcdef", "")}
	for _, l := range [][]api.Entry{
		nil,
		{has("a", "hay")},
		{has("a", "")},
		{gone("a")},
		{has("b", "x"), gone("a"), has("b", "yz")},
		{has("\x00", "\x00\x00")},
		full,
		{wide(), wide(), wide()}, // more than a page
		slices.Repeat([]api.Entry{wide()}, 255),
	} {
		for _, behind := range []int{0, 1, 2, api.Page, 10 * api.Page} {
			s := raw(l...) + strings.Repeat("\x00", behind)
			if got, err := Parse(s); !slices.Equal(got, l) || err != nil {
				t.Errorf("%q: %v %v, not %v", s, got, err, l)
			}
		}
	}
}

func TestParseOfBytes(t *testing.T) { // A2, W6
	l := []api.Entry{has("k1", "oats"), gone("k2"), has("k3", "")}
	s, err := Bytes(l)
	if err != nil {
		t.Fatal(err)
	}
	if got, err := Parse(s); !slices.Equal(got, l) || err != nil {
		t.Errorf("%v %v, not %v", got, err, l)
	}
}

func TestParseRefuses(t *testing.T) { // A2, Z1, Z3
	plain := raw(has("a", "hay"), gone("bc"))
	cases := map[string]string{
		"nothing":                      "",
		"a number alone":               "\x01",
		"a number too great":           "\x03" + plain[1:],
		"a number too great, noughts":  "\x03" + plain[1:] + "\x00\x00\x00\x00\x00",
		"a number too small":           "\x01" + plain[1:],
		"a number of none":             "\x00" + plain[1:],
		"all 255":                      strings.Repeat("\xff", api.Page),
		"neither gone nor not":         "\x01\x02\x01\x00a",
		"neither gone nor not, 255":    "\x01\xff\x01\x00a",
		"no key":                       raw(has("", "x")),
		"no key, gone":                 raw(gone("")),
		"gone with a value":            raw(api.Entry{Key: "a", Val: "x", Gone: true}),
		"key too long":                 raw(has("abcdefghi", "")),
		"value too long":               raw(has("a", strings.Repeat("v", api.MaxVal+1))),
		"the second one may not be":    raw(has("a", "x"), has("", "x")),
		"a byte behind":                plain + "\x01",
		"a byte behind noughts":        plain + "\x00\x00\x00x",
		"a byte behind the page":       plain + strings.Repeat("\x00", api.Page) + "x",
		"a byte behind none":           "\x00\x00x",
		"a length beyond the end":      "\x01\x00\x08\x10ab",
		"a value's length one too big": "\x01\x00\x01\x02ax",
	}
	for i := 1; i < len(plain); i++ {
		cases["cut at "+plain[:i]] = plain[:i]
	}
	for what, s := range cases {
		if got, err := Parse(s); len(got) != 0 || err != api.ErrText {
			t.Errorf("%s: %q: %v %v", what, s, got, err)
		}
	}
}

// What one byte is changed to must be refused, or be the bytes of what is answered.
func TestParseOfAnyBytes(t *testing.T) { // A2, Z1
	s := raw(has("a", "hay"), gone("bc"), has("k", "")) + "\x00\x00"
	for i := range len(s) {
		for b := range 256 {
			u := s[:i] + string([]byte{byte(b)}) + s[i+1:]
			l, err := Parse(u)
			if err != nil {
				if err != api.ErrText || len(l) != 0 {
					t.Fatalf("%q: %v %v", u, l, err)
				}
				continue
			}
			back, err := Bytes(l)
			if err != nil || !strings.HasPrefix(u, back) || strings.Trim(u[len(back):], "\x00") != "" {
				t.Fatalf("%q is read as %v, whose bytes are %q %v", u, l, back, err)
			}
		}
	}
}

func TestListsAreTheirOwners(t *testing.T) { // Z2
	under := []api.Entry{has("a", "x"), gone("b"), has("", "may not be")}
	before := slices.Clone(under)
	s, err := Bytes(under[:2])
	if err != nil || s != raw(before[:2]...) {
		t.Errorf("what stands behind the list is read: %q %v", s, err)
	}
	if !slices.Equal(under, before) {
		t.Errorf("the list is written into: %v", under)
	}
	first, _ := Parse(s)
	second, _ := Parse(s)
	first[0] = has("z", "other")
	_ = append(first[:1], has("z", "other"))
	if !slices.Equal(second, before[:2]) {
		t.Errorf("two answers share memory: %v", second)
	}
}
