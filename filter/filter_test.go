package filter

import (
	"math/bits"
	"math/rand"
	"slices"
	"strings"
	"testing"
)

// at: the bits of some spots.
func at(spots ...int) uint64 {
	var f uint64
	for _, s := range spots {
		f |= 1 << s
	}
	return f
}

// known: keys, and their spots, worked out apart from the program.
func known() map[string][2]int {
	return map[string][2]int{
		"":                        {7, 3},
		"a":                       {58, 25},
		"b":                       {59, 26},
		"c":                       {60, 27},
		"k1":                      {22, 9},
		"k2":                      {23, 10},
		"zz":                      {48, 17},
		"hay":                     {48, 10},
		"abcdefgh":                {43, 27},
		"\x00":                    {25, 56},
		"\x00\x00":                {7, 61},
		"ä":                       {49, 20}, // by its bytes
		strings.Repeat("\xff", 8): {55, 6},
	}
}

func TestOf(t *testing.T) { // D1
	if f := Of(nil); f != 0 {
		t.Errorf("no keys: %x", f)
	}
	if f := Of([]string{}); f != 0 {
		t.Errorf("no keys: %x", f)
	}
	var keys []string
	var all uint64
	for k, s := range known() {
		if f := Of([]string{k}); f != at(s[0], s[1]) {
			t.Errorf("%q: %x, not %x", k, f, at(s[0], s[1]))
		}
		keys = append(keys, k)
		all |= at(s[0], s[1])
	}
	if f := Of(keys); f != all {
		t.Errorf("all: %x, not %x", f, all)
	}
	if f := Of([]string{"a", "b", "a", "c"}); f != at(58, 25, 59, 26, 60, 27) {
		t.Errorf("a key twice: %x", f)
	}
}

func TestMay(t *testing.T) { // D1
	for k, s := range known() {
		for _, c := range []struct {
			f    uint64
			want bool
		}{
			{at(s[0], s[1]), true},
			{^uint64(0), true},
			{at(s[0]), false},
			{at(s[1]), false},
			{^at(s[0]), false},
			{^at(s[1]), false},
			{^at(s[0], s[1]), false},
			{0, false},
		} {
			if May(c.f, k) != c.want {
				t.Errorf("May(%x, %q): not %v", c.f, k, c.want)
			}
		}
	}
}

func TestMayOfOneSpot(t *testing.T) { // D1
	f := Of([]string{"apa"}) // both of its spots are 57
	if f != at(57) || !May(f, "apa") || May(^f, "apa") {
		t.Errorf("one spot that is both: %x", f)
	}
}

func TestWhatIsThereIsNeverDenied(t *testing.T) { // D1, W5
	r := rand.New(rand.NewSource(4))
	denied := 0
	for range 500 {
		var keys []string
		for range r.Intn(15) {
			keys = append(keys, drawn(r))
		}
		f := Of(keys)
		for _, k := range keys {
			if !May(f, k) {
				t.Fatalf("%q is among %q, and denied", k, keys)
			}
		}
		if k := drawn(r); !May(f, k) {
			denied++
			if slices.Contains(keys, k) {
				t.Fatalf("%q is among %q, and denied", k, keys)
			}
		}
	}
	if denied < 100 {
		t.Errorf("only %d keys of 500 were denied", denied)
	}
}

func drawn(r *rand.Rand) string {
	k := make([]byte, r.Intn(12))
	for i := range k {
		k[i] = byte(r.Intn(256))
	}
	return string(k)
}

func TestKeysAreNotWrittenInto(t *testing.T) { // D1, Z2
	keys := []string{"b", "a", "b"}
	Of(keys)
	if !slices.Equal(keys, []string{"b", "a", "b"}) {
		t.Errorf("%q", keys)
	}
}

func TestLongKeys(t *testing.T) { // D1, Z1
	k := strings.Repeat("\xfe", 1<<20)
	if f := Of([]string{k}); !May(f, k) || bits.OnesCount64(f) > 2 {
		t.Errorf("a long key: %x", f)
	}
}
