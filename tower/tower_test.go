package tower

import (
	"maps"
	"math"
	"math/rand"
	"slices"
	"strconv"
	"strings"
	"testing"

	"tidegate/api"
)

// has an entry of that key; gone is one that is no more.
func has(key, val string) api.Entry { return api.Entry{Key: key, Val: val} }
func gone(key string) api.Entry     { return api.Entry{Key: key, Gone: true} }

// heights: those that may be, those beyond either end, and the outermost.
func heights() []int {
	return []int{1, 2, 3, api.High, api.High + 1, 0, -1, 1000, math.MaxInt, math.MinInt}
}

// holds: are all answers of a list those of the entries that it should have?
func holds(t *testing.T, l *List, want map[string]api.Entry) {
	t.Helper()
	var all []api.Entry
	for _, k := range slices.Sorted(maps.Keys(want)) {
		all = append(all, want[k])
		if e, is := l.Get(k); !is || e != want[k] {
			t.Errorf("Get(%q): %v %v, not %v", k, e, is, want[k])
		}
	}
	if got := l.All(); !slices.Equal(got, all) {
		t.Errorf("All: %v, not %v", got, all)
	}
	if got := l.Many(); got != len(want) {
		t.Errorf("Many: %d, not %d", got, len(want))
	}
}

func TestNew(t *testing.T) { // C1, Z1
	l := New()
	holds(t, l, nil)
	for _, k := range []string{"", "a", "\x00", "\xff"} {
		if e, is := l.Get(k); is || e != (api.Entry{}) {
			t.Errorf("Get(%q) of an empty list: %v %v", k, e, is)
		}
	}
	l.Put(has("a", "hay"), 1)
	holds(t, New(), nil) // lists have nothing of each other
}

func TestPut(t *testing.T) { // C1
	for _, high := range heights() {
		l, want := New(), map[string]api.Entry{}
		for _, e := range []api.Entry{has("m", "1"), has("a", "2"), has("z", "3"), gone("b"), has("ab", ""), has("a\x00", "4"), has("\xff", "5")} {
			l.Put(e, high)
			want[e.Key] = e
			holds(t, l, want)
		}
	}
}

func TestPutInstead(t *testing.T) { // C1, W3
	for _, first := range heights() {
		for _, second := range heights() {
			l, want := New(), map[string]api.Entry{}
			for _, k := range []string{"a", "b", "c"} {
				l.Put(has(k, "old"), first)
				want[k] = has(k, "old")
			}
			for _, e := range []api.Entry{has("b", "new"), gone("a"), has("c", ""), has("a", "again")} {
				l.Put(e, second)
				want[e.Key] = e
				holds(t, l, want)
			}
		}
	}
}

func TestPutOfAnyEntry(t *testing.T) { // C1, Z1
	l, want := New(), map[string]api.Entry{}
	for _, e := range []api.Entry{
		{},
		has("", "x"),
		{Key: "a", Val: "x", Gone: true},
		has(strings.Repeat("k", 1000), strings.Repeat("v", 1000)),
	} {
		l.Put(e, api.High)
		want[e.Key] = e
		holds(t, l, want)
	}
}

func TestGetOfNone(t *testing.T) { // C1, Z1
	l := New()
	for _, k := range []string{"b", "d", "f"} {
		l.Put(has(k, "x"), 2)
	}
	for _, k := range []string{"", "a", "b\x00", "c", "e", "g", "bb", "\xff"} {
		if e, is := l.Get(k); is || e != (api.Entry{}) {
			t.Errorf("Get(%q): %v %v", k, e, is)
		}
	}
}

func TestAllIsFresh(t *testing.T) { // C1, Z2
	l := New()
	l.Put(has("a", "hay"), 1)
	l.Put(has("b", "oats"), 1)
	all := l.All()
	all[0] = has("q", "x")
	_ = append(all[:1], has("r", "x"))
	holds(t, l, map[string]api.Entry{"a": has("a", "hay"), "b": has("b", "oats")})
	all = l.All()
	l.Put(has("a", "straw"), 1)
	if all[0] != has("a", "hay") {
		t.Errorf("what came out has changed: %v", all)
	}
}

func TestManyPuts(t *testing.T) { // C1
	r := rand.New(rand.NewSource(3))
	for range 50 {
		l, want := New(), map[string]api.Entry{}
		for i := range 200 {
			e := has("k"+strconv.Itoa(r.Intn(60)), strconv.Itoa(i))
			if r.Intn(3) == 0 {
				e = gone(e.Key)
			}
			l.Put(e, r.Intn(8)-1)
			want[e.Key] = e
		}
		holds(t, l, want)
	}
}

// floor: how many entries lie on a floor, and whether they rise.
func floor(l *List, n int) (many int, rise bool) {
	rise = true
	for at := l.head.next[n]; at != nil; at = at.next[n] {
		many++
		rise = rise && (at.next[n] == nil || at.entry.Key < at.next[n].entry.Key)
	}
	return many, rise
}

func TestTowersAreAsHighAsSaid(t *testing.T) { // C1
	l := New()
	for i, high := range []int{-5, 0, 1, 2, 3, 4, 5, 100} {
		l.Put(has("k"+strconv.Itoa(i), "x"), high)
	}
	l.Put(has("k7", "y"), 1) // instead of one whose tower was higher
	l.Put(has("k0", "y"), 2) // .. and of one whose was lower
	for n, want := range []int{8, 5, 3, 2} {
		if many, rise := floor(l, n); many != want || !rise {
			t.Errorf("floor %d: %d entries, %v, not %d", n, many, rise, want)
		}
	}
}
