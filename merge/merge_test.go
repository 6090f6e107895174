package merge

import (
	"maps"
	"math/rand"
	"slices"
	"strconv"
	"testing"

	"tidegate/api"
)

// has an entry of that key; gone is one that is no more.
func has(key, val string) api.Entry { return api.Entry{Key: key, Val: val} }
func gone(key string) api.Entry     { return api.Entry{Key: key, Gone: true} }

// rows: entries of some keys, with the same value.
func rows(val string, keys ...string) []api.Entry {
	var l []api.Entry
	for _, k := range keys {
		l = append(l, has(k, val))
	}
	return l
}

func TestTwo(t *testing.T) { // F1
	for _, c := range []struct {
		what       string
		a, b, want []api.Entry
	}{
		{"both empty", nil, []api.Entry{}, nil},
		{"a alone", rows("1", "a", "b"), nil, rows("1", "a", "b")},
		{"b alone", nil, rows("2", "a", "b"), rows("2", "a", "b")},
		{"a below b", rows("1", "a", "b"), rows("1", "c", "d"), rows("1", "a", "b", "c", "d")},
		{"b below a", rows("1", "c", "d"), rows("1", "a", "b"), rows("1", "a", "b", "c", "d")},
		{"by turns", rows("1", "a", "c", "e"), rows("1", "b", "d"), rows("1", "a", "b", "c", "d", "e")},
		{"the same keys", rows("1", "a", "b"), rows("2", "a", "b"), rows("1", "a", "b")},
		{"some of them", rows("1", "b", "d"), rows("2", "a", "b", "c", "d", "e"), []api.Entry{has("a", "2"), has("b", "1"), has("c", "2"), has("d", "1"), has("e", "2")}},
		{"a key that b has twice", rows("1", "b"), rows("2", "a", "b", "b", "c"), []api.Entry{has("a", "2"), has("b", "1"), has("c", "2")}},
		{"gone counts", []api.Entry{gone("a")}, rows("2", "a"), []api.Entry{gone("a")}},
		{"gone is passed by", rows("1", "a"), []api.Entry{gone("a"), gone("b")}, []api.Entry{has("a", "1"), gone("b")}},
		{"beginnings", rows("1", "a", "ab"), rows("2", "", "aa", "ab\x00"), []api.Entry{has("", "2"), has("a", "1"), has("aa", "2"), has("ab", "1"), has("ab\x00", "2")}},
		{"by bytes", rows("1", "\x7f"), rows("1", "a", "\x80", "\xff"), rows("1", "a", "\x7f", "\x80", "\xff")},
	} {
		if got := Two(c.a, c.b); !slices.Equal(got, c.want) {
			t.Errorf("%s: %v, not %v", c.what, got, c.want)
		}
	}
}

func TestAll(t *testing.T) { // F1
	for _, c := range []struct {
		what  string
		lists [][]api.Entry
		want  []api.Entry
	}{
		{"nil", nil, nil},
		{"no lists", [][]api.Entry{}, nil},
		{"empty ones", [][]api.Entry{nil, {}, nil}, nil},
		{"one", [][]api.Entry{rows("1", "a", "b")}, rows("1", "a", "b")},
		{"the first one's", [][]api.Entry{rows("1", "b"), rows("2", "a", "b"), rows("3", "a", "b", "c")}, []api.Entry{has("a", "2"), has("b", "1"), has("c", "3")}},
		{"gone, and there ahead of it", [][]api.Entry{{gone("a")}, rows("2", "a", "b"), {gone("b")}}, []api.Entry{gone("a"), has("b", "2")}},
		{"an empty one between", [][]api.Entry{rows("1", "c"), nil, rows("3", "a", "c"), nil}, []api.Entry{has("a", "3"), has("c", "1")}},
		{"five", [][]api.Entry{rows("1", "e"), rows("2", "d", "e"), rows("3", "c", "e"), rows("4", "b", "d"), rows("5", "a", "b", "c", "d", "e")},
			[]api.Entry{has("a", "5"), has("b", "4"), has("c", "3"), has("d", "2"), has("e", "1")}},
	} {
		if got := All(c.lists); !slices.Equal(got, c.want) {
			t.Errorf("%s: %v, not %v", c.what, got, c.want)
		}
	}
}

func TestAllOfDrawnLists(t *testing.T) { // F1
	r := rand.New(rand.NewSource(6))
	for range 300 {
		var lists [][]api.Entry
		want := map[string]api.Entry{}
		for i := range r.Intn(9) {
			l := drawn(r, strconv.Itoa(i))
			lists = append(lists, l)
			for _, e := range l {
				if _, is := want[e.Key]; !is {
					want[e.Key] = e
				}
			}
		}
		var all []api.Entry
		for _, k := range slices.Sorted(maps.Keys(want)) {
			all = append(all, want[k])
		}
		if got := All(lists); !slices.Equal(got, all) {
			t.Fatalf("%v: %v, not %v", lists, got, all)
		}
		if len(lists) == 2 {
			if got := Two(lists[0], lists[1]); !slices.Equal(got, all) {
				t.Fatalf("%v: %v, not %v", lists, got, all)
			}
		}
	}
}

// drawn: a list that rises.
func drawn(r *rand.Rand, val string) []api.Entry {
	var l []api.Entry
	for k := 'a'; k <= 'z'; k++ {
		switch r.Intn(6) {
		case 0:
			l = append(l, has(string(k), val))
		case 1:
			l = append(l, gone(string(k)))
		}
	}
	return l
}

func TestLive(t *testing.T) { // F1
	for _, c := range []struct {
		what    string
		l, want []api.Entry
	}{
		{"nil", nil, nil},
		{"none", []api.Entry{}, nil},
		{"all", rows("", "a", "b"), rows("", "a", "b")},
		{"none of them", []api.Entry{gone("a"), gone("b")}, nil},
		{"some", []api.Entry{gone("a"), has("b", "x"), gone("c"), has("d", ""), gone("e")}, []api.Entry{has("b", "x"), has("d", "")}},
	} {
		if got := Live(c.l); !slices.Equal(got, c.want) {
			t.Errorf("%s: %v, not %v", c.what, got, c.want)
		}
	}
}

func TestListsAreNotShared(t *testing.T) { // F1, Z2
	whole := rows("1", "a", "c", "e", "g")
	a, b := whole[:2], rows("2", "b", "d")
	for what, got := range map[string][]api.Entry{
		"Two":            Two(a, b),
		"Two, a alone":   Two(a, nil),
		"Two, b alone":   Two(nil, a),
		"All":            All([][]api.Entry{a, b}),
		"All, one":       All([][]api.Entry{a}),
		"All, one of it": All([][]api.Entry{nil, a, nil}),
		"Live":           Live(a),
	} {
		for i := range got {
			got[i] = has("q", "q")
		}
		_ = append(got, has("q", "q"))
		if !slices.Equal(whole, rows("1", "a", "c", "e", "g")) || !slices.Equal(b, rows("2", "b", "d")) {
			t.Fatalf("%s: what was handed in has changed: %v %v", what, whole, b)
		}
	}
}

func TestListsThatDoNotRise(t *testing.T) { // Z1
	l := rows("1", "c", "a", "", "b", "b")
	Two(l, l)
	Two(l, rows("2", "a", "b"))
	Two(rows("2", "a", "b"), l)
	All([][]api.Entry{l, rows("2", "a", "b"), l})
	if got := Live(l); !slices.Equal(got, l) {
		t.Errorf("%v", got)
	}
}
