package store

import (
	"fmt"
	"math/rand"
	"slices"
	"strings"
	"testing"

	"tidegate/api"
	"tidegate/chip"
	"tidegate/entry"
	"tidegate/manifest"
	"tidegate/table"
)

// has an entry of that key; gone is one that is no more.
func has(key, val string) api.Entry { return api.Entry{Key: key, Val: val} }
func gone(key string) api.Entry     { return api.Entry{Key: key, Gone: true} }

// rows of a text: KEY=VAL, with blanks between; without = it is gone.
func rows(text string) []api.Entry {
	var l []api.Entry
	for _, w := range strings.Fields(text) {
		k, v, is := strings.Cut(w, "=")
		l = append(l, api.Entry{Key: k, Val: v, Gone: !is})
	}
	return l
}

// text of rows.
func text(l []api.Entry) string {
	var out []string
	for _, e := range l {
		w := e.Key
		if !e.Gone {
			w += "=" + e.Val
		}
		out = append(out, w)
	}
	return strings.Join(out, " ")
}

// twin: another chip that is as a chip is (that isn't down).
func twin(c *chip.Chip) *chip.Chip {
	d := *c
	return &d
}

// image of a chip: all that can be seen of it.
func image(c *chip.Chip) string {
	var s strings.Builder
	for b := range api.Blocks {
		fmt.Fprintf(&s, "%d: %d %d %v", b, c.Wear(b), c.Next(b), c.Bad(b))
		for p := range api.Pages {
			x, err := c.Read(b, p)
			fmt.Fprintf(&s, " %q %v", x, err)
		}
	}
	return s.String()
}

// made: a store on a new chip.
func made(t *testing.T) (*chip.Chip, *Store) {
	t.Helper()
	c := chip.New()
	if err := Format(c); err != nil {
		t.Fatal(err)
	}
	return c, opened(t, c)
}

// opened: a chip's store.
func opened(t *testing.T, c *chip.Chip) *Store {
	t.Helper()
	s, err := Open(c)
	if err != nil || s == nil {
		t.Fatalf("it isn't opened: %v", err)
	}
	return s
}

// write batches, each a text.
func write(t *testing.T, s *Store, batches ...string) {
	t.Helper()
	for _, b := range batches {
		if err := s.Write(rows(b)); err != nil {
			t.Fatalf("write %s: %v", b, err)
		}
	}
}

// ok: an error is none.
func ok(t *testing.T, err error) {
	t.Helper()
	if err != nil {
		t.Fatal(err)
	}
}

// told: a store's rows, as a text.
func told(t *testing.T, s *Store) string {
	t.Helper()
	l, err := s.Rows()
	ok(t, err)
	return text(l)
}

// wants a store's rows to be those of a text, and what each key has to be as the rows say.
func wants(t *testing.T, s *Store, want string) {
	t.Helper()
	if got := told(t, s); got != want {
		t.Errorf("rows: %s, not %s", got, want)
	}
	for _, e := range rows(want) {
		if v, is, err := s.Get(e.Key); v != e.Val || !is || err != nil {
			t.Errorf("%s has %q %v %v, not %q", e.Key, v, is, err, e.Val)
		}
	}
	for _, k := range []string{"", "a", "aa", "b", "k", "k1", "k17", "z", "zz", "\x00", "\xff", "abcdefghijkl"} {
		if !slices.ContainsFunc(rows(want), func(e api.Entry) bool { return e.Key == k }) {
			if v, is, err := s.Get(k); v != "" || is || err != nil {
				t.Errorf("%s has %q %v %v, not nothing", k, v, is, err)
			}
		}
	}
}

// uses: a store's blocks, as a text: its log, its new tables, its old ones.
func uses(s *Store) string {
	m := s.Manifest()
	return fmt.Sprintf("%d %v %v", m.Log, append([]int{}, m.New...), append([]int{}, m.Old...))
}

// wantsUses: a store's blocks are these.
func wantsUses(t *testing.T, s *Store, want string) {
	t.Helper()
	if got := uses(s); got != want {
		t.Errorf("blocks: %s, not %s", got, want)
	}
}

// sound: a store is as H2 says, on its chip, too; a store that is opened anew is the same.
func sound(t *testing.T, c *chip.Chip, s *Store) {
	t.Helper()
	m := s.Manifest()
	f, at, err := manifest.Find(c)
	if err != nil || fmt.Sprint(f) != fmt.Sprint(m) || at != s.at {
		t.Fatalf("the manifest is %v in %d, on the chip %v in %d, %v", m, s.at, f, at, err)
	}
	if len(m.New) >= api.Low+3 || len(m.Old) > 3 {
		t.Fatalf("many tables: %v", m)
	}
	last := ""
	for _, b := range m.Old {
		l, err := table.All(c, b)
		ok(t, err)
		for _, e := range l {
			if e.Gone || e.Key <= last {
				t.Fatalf("block %d of the old ones has %v behind %s", b, e, last)
			}
			last = e.Key
		}
	}
	for _, b := range m.New {
		_, err := table.All(c, b)
		ok(t, err)
	}
	again := opened(t, c)
	if told(t, again) != told(t, s) || uses(again) != uses(s) {
		t.Fatalf("opened anew: %s, not %s", told(t, again), told(t, s))
	}
}

// logOf a store: the batches that can be read in it, a text each.
func logOf(t *testing.T, c *chip.Chip, s *Store) []string {
	t.Helper()
	var out []string
	for p := range api.Pages {
		if x, err := c.Read(s.Manifest().Log, p); err == nil {
			l, err := entry.Parse(x)
			ok(t, err)
			out = append(out, text(l))
		}
	}
	return out
}

// many rows: n of them, from a number on, as batches of four.
func many(from, n int) []string {
	var out []string
	for i := 0; i < n; i += api.MaxBatch {
		var l []api.Entry
		for k := i; k < min(i+api.MaxBatch, n); k++ {
			l = append(l, has(fmt.Sprintf("k%02d", from+k), fmt.Sprint(k)))
		}
		out = append(out, text(l))
	}
	return out
}

// joined batches, as rows are told.
func joined(batches []string) string { return strings.Join(batches, " ") }

// anyBatch that may be of its own; also of keys that are there already.
func anyBatch(r *rand.Rand) []api.Entry {
	var l []api.Entry
	for range 1 + r.Intn(api.MaxBatch) {
		e := has(fmt.Sprintf("k%d", r.Intn(45)), []string{"", "x", "hay", "oats"}[r.Intn(4)])
		if r.Intn(3) == 0 {
			e = gone(e.Key)
		}
		l = append(l, e)
	}
	return l
}

// after: rows, as they are told, with a batch written behind them.
func after(was string, l []api.Entry) string {
	vals := map[string]string{}
	for _, e := range slices.Concat(rows(was), l) {
		delete(vals, e.Key)
		if !e.Gone {
			vals[e.Key] = e.Val
		}
	}
	var keys []string
	for k := range vals {
		keys = append(keys, k)
	}
	slices.Sort(keys)
	var out []api.Entry
	for _, k := range keys {
		out = append(out, has(k, vals[k]))
	}
	return text(out)
}
