package console

import (
	"fmt"
	"math/rand"
	"regexp"
	"slices"
	"strings"
	"testing"

	"tidegate/api"
	"tidegate/chip"
	"tidegate/store"
)

// run lines, of which none is too many.
func run(t *testing.T, lines ...string) []string {
	t.Helper()
	out, err := Run(lines)
	if err != nil || len(out) != len(lines) {
		t.Fatalf("%d answers to %d lines, %v", len(out), len(lines), err)
	}
	return out
}

// holds: a session's lines are answered so: LINE => ANSWER each.
func holds(t *testing.T, session string) {
	t.Helper()
	var lines, want []string
	for _, l := range strings.Split(strings.Trim(session, "\n"), "\n") {
		line, answer, is := strings.Cut(l, " => ")
		if !is {
			t.Fatalf("no answer: %q", l)
		}
		lines, want = append(lines, line), append(want, answer)
	}
	for i, got := range run(t, lines...) {
		if got != want[i] {
			t.Errorf("line %d: %q: %q, not %q", i+1, lines[i], got, want[i])
		}
	}
}

// document: the session of the document's section 'Examples'.
const document = `
write a=hay b=oats => ok
write k1=x k2=y k3=z => ok
rows => a=hay b=oats k1=x k2=y k3=z
get a => =hay
get zz => error 5
write b => ok
get b => error 5
blocks => 21 2 1 0 0 0 wear 0 1
flush => ok
blocks => 20 2 1 1 0 0 wear 0 1
write a=straw => ok
get a => =straw
flush => ok
write c=1 => ok
flush => ok
blocks => 20 2 1 0 1 0 wear 0 1
page b 2 => c=1 k1=x
page k1 9 => k2=y k3=z
compact => ok
blocks => 20 2 1 0 1 0 wear 0 1
write c c=2 c => ok
rows => a=straw k1=x k2=y k3=z
write c=3 d=4 => ok
write e=5 => ok
write f=6 => ok
write g=7 => ok
write h=8 => ok
write i=9 => ok
write j=10 => ok
write l=11 => ok
write m=12 => ok
blocks => 19 2 1 1 1 0 wear 0 1
rows => a=straw c=3 d=4 e=5 f=6 g=7 h=8 i=9 j=10 k1=x k2=y k3=z l=11 m=12
weaken 5 => ok
weaken 6 => ok
flush => ok
blocks => 18 2 1 2 1 0 wear 0 1
arm 0 => ok
write n=13 => error 9
restart 1 => ok
rows => a=straw c=3 d=4 e=5 f=6 g=7 h=8 i=9 j=10 k1=x k2=y k3=z l=11 m=12
write n=14 => ok
get n => =14
arm 1 => ok
flush => error 9
restart 2 => ok
blocks => 18 2 1 2 1 0 wear 0 1
rows => a=straw c=3 d=4 e=5 f=6 g=7 h=8 i=9 j=10 k1=x k2=y k3=z l=11 m=12 n=14
weaken 1 => error 1
write abcdefghi=1 => error 4
write a=b=c => error 4
fly high => error 4
`

func TestTheDocumentsSession(t *testing.T) { holds(t, document) } // L1, L2

// Each line's answer hangs on the lines ahead of it alone.
func TestBeginningsOfASession(t *testing.T) { // L1, Z2
	var lines []string
	for _, l := range strings.Split(strings.Trim(document, "\n"), "\n") {
		line, _, _ := strings.Cut(l, " => ")
		lines = append(lines, line)
	}
	whole := run(t, lines...)
	for i := range lines {
		if got := run(t, lines[:i]...); !slices.Equal(got, whole[:i]) {
			t.Fatalf("the first %d lines: %q", i, got)
		}
	}
}

func TestHowManyLines(t *testing.T) { // L1, Z1
	for _, n := range []int{0, 1, api.MaxLines - 1, api.MaxLines} {
		out, err := Run(slices.Repeat([]string{"rows"}, n))
		if !slices.Equal(out, slices.Repeat([]string{"-"}, n)) || err != nil {
			t.Errorf("%d lines: %q %v", n, out, err)
		}
	}
	if out, err := Run(nil); len(out) != 0 || err != nil {
		t.Errorf("no lines: %q %v", out, err)
	}
	for _, n := range []int{api.MaxLines + 1, 2 * api.MaxLines, 10000} {
		for _, line := range []string{"rows", "", strings.Repeat("x", 61)} {
			if out, err := Run(slices.Repeat([]string{line}, n)); len(out) != 0 || err != api.ErrMany {
				t.Errorf("%d lines: %q %v", n, out, err)
			}
		}
	}
}

func TestWrite(t *testing.T) { // L1, L2
	holds(t, `
rows => -
write a=hay => ok
write a= => ok
rows => a=
get a => =
write a => ok
rows => -
write a => ok
write a=1 b=2 c=3 d=4 => ok
write a=1 b=2 c=3 d=4 e=5 => error 4
write d a=9 a=8 b b=7 => error 4
rows => a=1 b=2 c=3 d=4
write d a=9 a=8 b => ok
rows => a=8 c=3
write abcdefgh=abcdefghijklmnop => ok
get abcdefgh => =abcdefghijklmnop
write abcdefgh=abcdefghijklmnopq => error 4
write x=1 abcdefghi => error 4
write  x=1 => error 4
write x=1  => error 4
write x=1  y=2 => error 4
write x=1 =2 => error 4
write X=1 => error 4
rows => a=8 abcdefgh=abcdefghijklmnop c=3
`)
}

func TestRowsUpToMaxKeys(t *testing.T) { // L1, L2
	var lines, want []string
	for i := range api.MaxKeys {
		row := fmt.Sprintf("k%02d=%d", i, i)
		lines, want = append(lines, "write "+row), append(want, row)
	}
	lines = append(lines, "rows", "page k 40", "page k 39", "page k 999", "write z=1", "write k00 z=1", "rows", "page k01 2")
	out := run(t, lines...)[api.MaxKeys:]
	all := strings.Join(want, " ")
	for i, w := range []string{all, all, strings.Join(want[:39], " "), all, "error 8", "ok", strings.Join(append(want[1:], "z=1"), " "), "k02=2 k03=3"} {
		if out[i] != w {
			t.Errorf("%s: %q, not %q", lines[api.MaxKeys+i], out[i], w)
		}
	}
}

// A word may be empty, and of any bytes but blanks.
func TestPageAndGet(t *testing.T) { // L1, L2
	session := "write a=1 b=2 k=3 k1=4 => ok\n"
	for _, c := range [][2]string{
		{"page  2", "a=1 b=2"},
		{"page  999", "a=1 b=2 k=3 k1=4"},
		{"page  0", "-"},
		{"page a 0", "-"},
		{"page a 1", "b=2"},
		{"page a 3", "b=2 k=3 k1=4"},
		{"page k 10", "k1=4"},
		{"page k0 10", "k1=4"},
		{"page k1 1", "-"},
		{"page A 1", "a=1"},
		{"page a=1 1", "b=2"},
		{"page \xff 1", "-"},
		{"page " + strings.Repeat("a", 53) + " 1", "b=2"}, // longer than a key may be
		{"page 2 2", "a=1 b=2"},
		{"get a", "=1"},
		{"get k1", "=4"},
		{"get ", "error 5"},
		{"get A", "error 5"},
		{"get a=1", "error 5"},
		{"get k2", "error 5"},
		{"get " + strings.Repeat("a", 56), "error 5"},
	} {
		session += c[0] + " => " + c[1] + "\n"
	}
	holds(t, session)
}

// What is none of the lines is answered by error 4, and does nothing.
func TestOtherLines(t *testing.T) { // L2, W3
	wrong := []string{
		"", " ", "  ", "   ", "fly", "fly high", "fly high 3", "-", "ok", "error 4",
		"write", "Write a=9", "writea=9", " write a=9", "write\ta=9", "write ", "write  ", "write =", "write a=b=c", "write a=9 ", "write a=9\n",
		"rows ", " rows", "rows 1", "Rows", "rows\n", "row", "rowss",
		"page", "page a", "page ", "page  ", "page a ", "page a x", "page a 01", "page a 00", "page a 1000", "page a -1", "page a +1", "page a 1 ", "page a  1", "page a 1 1", "page a 1x", "page a 0x1", "page a 1_0", "page a 1.0", "page a ٣", "page a 99999999999999999999", "Page a 1", "page a\t1",
		"get", "get a b", "get  ", "get a ", " get a", "GET a",
		"flush ", "flush 1", "compact ", "compact 1", "blocks ", "blocks 1", "open ", "open 1", "Flush", "flush compact",
		"weaken", "weaken ", "weaken x", "weaken 07", "weaken -1", "weaken 1000", "weaken 7 8", "weaken  7",
		"arm", "arm ", "arm x", "arm 00", "arm -1", "arm +0", "arm 1000", "arm 0 0", "arm  0",
		"restart", "restart ", "restart x", "restart 01", "restart -1", "restart 1000", "restart 0 0", "restart  0",
		strings.Repeat("x", 60), strings.Repeat("x", 61), strings.Repeat("x", 1<<20), strings.Repeat(" ", 60), strings.Repeat(" ", 61), "\x00", "rows\x00",
	}
	for _, line := range wrong {
		out := run(t, "write a=1 b=2", "flush", "write c=3", line, "rows", "blocks", "write d=4", "rows")
		if !slices.Equal(out, []string{"ok", "ok", "ok", "error 4", "a=1 b=2 c=3", "20 2 1 1 0 0 wear 0 1", "ok", "a=1 b=2 c=3 d=4"}) {
			t.Errorf("%.70q: %q", line, out)
		}
	}
}

// A line that would be one, but for its bytes, is none.
func TestHowLongALineIs(t *testing.T) { // L2
	fits := "write abcdefgh=abcdefghijklmnop bbbbbbbb=abcdefghijklmnop c="
	if len(fits) != api.MaxLine {
		t.Fatal(len(fits))
	}
	none := strings.Repeat("x", 61-len("get "))
	holds(t, fits+` => ok
rows => abcdefgh=abcdefghijklmnop bbbbbbbb=abcdefghijklmnop c=
write abcdefgh=abcdefghijklmnop bbbbbbbb=abcdefghijklmnop c=1 => error 4
write abcdefgh bbbbbbbb=abcdefghijklmnop cccccccc dddddddd=1 => ok
write abcdefgh bbbbbbbb=abcdefghijklmnop cccccccc dddddddd=22 => error 4
rows => bbbbbbbb=abcdefghijklmnop c= dddddddd=1
get `+none+` => error 4
get `+none[1:]+` => error 5
page `+none[3:]+` 1 => error 4
page `+none[4:]+` 1 => -
`)
}

// Numbers that a line may have, each as itself.
func TestNumbers(t *testing.T) { // L1
	for n := range 1000 {
		if got, is := number(fmt.Sprint(n)); got != n || !is {
			t.Errorf("%d: %d %v", n, got, is)
		}
		for _, s := range []string{"0" + fmt.Sprint(n), "00" + fmt.Sprint(n), fmt.Sprint(n + 1000), "-" + fmt.Sprint(n), "+" + fmt.Sprint(n), fmt.Sprint(n) + " "} {
			if got, is := number(s); got != 0 || is {
				t.Errorf("%q: %d %v", s, got, is)
			}
		}
	}
	for b := range 256 {
		s := string([]byte{byte(b)})
		digit := b >= '0' && b <= '9'
		for _, w := range []string{s, "1" + s, "1" + s + "1"} {
			if _, is := number(w); is != digit {
				t.Errorf("%q: %v", w, is)
			}
		}
	}
	if _, is := number(""); is {
		t.Error("an empty word is no number")
	}
}

func TestFlushCompactOpen(t *testing.T) { // L1
	holds(t, `
blocks => 21 2 1 0 0 0 wear 0 1
compact => ok
blocks => 21 2 1 0 0 0 wear 0 1
write a=1 => ok
flush => ok
blocks => 20 2 1 1 0 0 wear 0 1
open => ok
rows => a=1
blocks => 20 2 1 1 0 0 wear 0 1
write b=2 => ok
open => ok
rows => a=1 b=2
flush => ok
blocks => 19 2 1 2 0 0 wear 0 1
compact => ok
blocks => 20 2 1 0 1 0 wear 0 1
restart 0 => ok
restart 2 => ok
restart 999 => ok
rows => a=1 b=2
blocks => 20 2 1 0 1 0 wear 0 1
write a b => ok
flush => ok
blocks => 19 2 1 1 1 0 wear 0 1
compact => ok
blocks => 21 2 1 0 0 0 wear 0 1
rows => -
`)
}

func TestWeaken(t *testing.T) { // L1, L2
	holds(t, `
weaken 0 => error 1
weaken 1 => error 1
weaken 24 => error 1
weaken 999 => error 1
weaken 2 => ok
weaken 3 => ok
weaken 23 => ok
blocks => 21 2 1 0 0 0 wear 0 1
write a=1 => ok
blocks => 19 2 1 0 0 2 wear 0 1
rows => a=1
get a => =1
restart 0 => ok
blocks => 19 2 1 0 0 2 wear 0 1
`)
}

// No block is left: what was written is there still.
func TestAllBlocksGoBad(t *testing.T) { // L1, L2
	session := "write a=1 => ok\nflush => ok\nwrite b=2 => ok\n"
	for b := api.Fixed; b < api.Blocks; b++ {
		session += fmt.Sprintf("weaken %d => ok\n", b)
	}
	holds(t, session+`
write c=3 => error 8
flush => error 8
compact => error 8
rows => a=1 b=2
get c => error 5
blocks => 0 2 1 1 0 20 wear 1 1
open => ok
rows => a=1 b=2
`[1:])
}

func TestDown(t *testing.T) { // L1, L2
	holds(t, `
write a=1 => ok
arm 1 => ok
write b=2 => ok
write c=3 => error 9
write d=4 => error 9
write D=4 => error 4
rows => error 9
page a 0 => error 9
get a => error 9
get zz => error 9
flush => error 9
compact => error 9
open => error 9
weaken 24 => error 1
fly => error 4
restart 2 => ok
rows => a=1 b=2 c=3
arm 0 => ok
restart 0 => ok
write d=4 => ok
arm 0 => ok
write e=5 => error 9
restart 0 => ok
rows => a=1 b=2 c=3 d=4
arm 0 => ok
write f=6 => error 9
restart 1 => ok
rows => a=1 b=2 c=3 d=4
arm 0 => ok
write g=7 => error 9
restart 3 => ok
rows => a=1 b=2 c=3 d=4
arm 0 => ok
open => ok
write h=8 => error 9
restart 2 => ok
rows => a=1 b=2 c=3 d=4 h=8
`)
}

// plain: a session's rows, as a list of what was written says them.
type plain map[string]string

func (p plain) text(after string, many int) string {
	var out []string
	keys := []string{}
	for k := range p {
		keys = append(keys, k)
	}
	slices.Sort(keys)
	for _, k := range keys {
		if k > after && len(out) < many {
			out = append(out, k+"="+p[k])
		}
	}
	if out == nil {
		return "-"
	}
	return strings.Join(out, " ")
}

// with changes, one behind the other.
func (p plain) with(text string) plain {
	out := plain{}
	for k, v := range p {
		out[k] = v
	}
	for _, w := range strings.Fields(text) {
		k, v, is := strings.Cut(w, "=")
		delete(out, k)
		if is {
			out[k] = v
		}
	}
	return out
}

// anyChanges that may be.
func anyChanges(r *rand.Rand) string {
	var words []string
	for range 1 + r.Intn(api.MaxBatch) {
		words = append(words, fmt.Sprintf("k%d%s", r.Intn(60), []string{"", "=", "=x", "=hay", "=oats"}[r.Intn(5)]))
	}
	return strings.Join(words, " ")
}

// usage: what blocks is answered by, as a store's manifest and its chip say it.
func usage(c *chip.Chip, s *store.Store) string {
	m := s.Manifest()
	n := [6]int{api.Head: api.Fixed, api.Log: 1, api.New: len(m.New), api.Old: len(m.Old)}
	n[api.Free] = api.Blocks - api.Fixed - 1 - len(m.New) - len(m.Old)
	var wear []int
	for b := api.Fixed; b < api.Blocks; b++ {
		wear = append(wear, c.Wear(b))
	}
	return strings.Trim(fmt.Sprint(n), "[]") + fmt.Sprint(" wear ", slices.Min(wear), " ", slices.Max(wear))
}

// Sessions in which nothing falls, against a plain list of rows; their blocks against a store that is told the same.
func TestSessionsAgainstAPlainOne(t *testing.T) { // L1, L2, W1, W3
	r := rand.New(rand.NewSource(12))
	for range 200 {
		var lines, want []string
		p := plain{}
		c := chip.New()
		_ = store.Format(c)
		s, _ := store.Open(c)
		for range api.MaxLines {
			line, answer := "write "+anyChanges(r), "ok"
			switch r.Intn(12) {
			case 0:
				line, answer = "rows", p.text("", api.MaxKeys)
			case 1:
				after, many := []string{"", "a", "k3", fmt.Sprintf("k%d", r.Intn(60))}[r.Intn(4)], r.Intn(50)
				line, answer = fmt.Sprintf("page %s %d", after, many), p.text(after, many)
			case 2:
				k := fmt.Sprintf("k%d", r.Intn(60))
				line, answer = "get "+k, "error 5"
				if v, is := p[k]; is {
					answer = "=" + v
				}
			case 3:
				line = []string{"open", "restart 0", "restart 1", "restart 2"}[r.Intn(4)]
				s, _ = store.Open(c)
			case 4:
				line = "flush"
				_ = s.Flush()
			case 5:
				line = "compact"
				_ = s.Compact()
			case 6, 7:
				line, answer = "blocks", usage(c, s)
			default:
				text := strings.TrimPrefix(line, "write ")
				if len(p.with(text)) > api.MaxKeys {
					answer = "error 8"
					break
				}
				p = p.with(text)
				var l []api.Entry
				for _, w := range strings.Fields(text) {
					k, v, is := strings.Cut(w, "=")
					l = append(l, api.Entry{Key: k, Val: v, Gone: !is})
				}
				_ = s.Write(l)
			}
			lines, want = append(lines, line), append(want, answer)
		}
		for i, got := range run(t, lines...) {
			if got != want[i] {
				t.Fatalf("line %d of %q: %q, not %q", i, lines[:i+1], got, want[i])
			}
		}
	}
}

// Sessions in which the machine falls, and blocks go bad: each batch is there as a whole, or not at all.
func TestSessionsThatFall(t *testing.T) { // L1, L2, W1, W2
	r := rand.New(rand.NewSource(13))
	fell := 0
	for range 400 {
		var lines []string
		for len(lines) < api.MaxLines-1 {
			switch r.Intn(12) {
			case 0:
				lines = append(lines, fmt.Sprintf("arm %d", r.Intn(12)))
			case 1, 2:
				lines = append(lines, fmt.Sprintf("restart %d", r.Intn(4)), "rows")
			case 3:
				lines = append(lines, fmt.Sprintf("weaken %d", r.Intn(api.Blocks+8)))
			case 4:
				lines = append(lines, []string{"flush", "compact", "open", "blocks"}[r.Intn(4)])
			case 5:
				lines = append(lines, "rows")
			default:
				lines = append(lines, "write "+anyChanges(r))
			}
		}
		may, down := []plain{{}}, false
		for i, got := range run(t, lines...) {
			text, writes := strings.CutPrefix(lines[i], "write ")
			last := may[0]
			switch {
			case strings.HasPrefix(lines[i], "restart"):
				down = false
				if got != "ok" {
					t.Fatalf("line %d of %q: %q", i, lines[:i+1], got)
				}
			case writes && got == "ok":
				may = []plain{last.with(text)}
			case writes && got == "error 9" && !down:
				may = []plain{last, last.with(text)}
			case lines[i] == "rows" && !down:
				at := slices.IndexFunc(may, func(p plain) bool { return p.text("", api.MaxKeys) == got })
				if at < 0 {
					t.Fatalf("line %d of %q: %q, not one of %v", i, lines[:i+1], got, may)
				}
				may = may[at : at+1]
			}
			if got == "error 9" && !down {
				down = true
				fell++
			}
		}
	}
	if fell < 200 {
		t.Errorf("the machine fell %d times alone", fell)
	}
}

// Lines of whichever bytes: each is answered, in one of the forms that there are.
func TestAnyLines(t *testing.T) { // L2, Z1
	form := regexp.MustCompile(`^(ok|-|=[a-z0-9]*|error [1-9]|[a-z0-9]+=[a-z0-9]*( [a-z0-9]+=[a-z0-9]*)*|\d+( \d+){5} wear \d+ \d+)$`)
	words := []string{"write", "rows", "page", "get", "flush", "compact", "blocks", "open", "weaken", "arm", "restart", "a", "b=1", "k=", "0", "1", "2", "9", "23", "", "=", "\x00", "\xff\xfe", "ä"}
	r := rand.New(rand.NewSource(14))
	for range 1000 {
		var lines []string
		for range r.Intn(api.MaxLines + 1) {
			var l []string
			for range r.Intn(5) {
				l = append(l, words[r.Intn(len(words))])
			}
			line := []byte(strings.Join(l, " "))
			if len(line) > 0 && r.Intn(5) == 0 {
				line[r.Intn(len(line))] = byte(r.Intn(256))
			}
			lines = append(lines, string(line))
		}
		for i, got := range run(t, lines...) {
			if !form.MatchString(got) {
				t.Fatalf("line %d of %q: %q", i, lines[:i+1], got)
			}
		}
	}
}

func TestListsAreTheirOwners(t *testing.T) { // Z2
	under := []string{"write a=1", "rows", "write b=2"}
	before := slices.Clone(under)
	first := run(t, under[:2]...)
	if !slices.Equal(first, []string{"ok", "a=1"}) || !slices.Equal(under, before) {
		t.Errorf("%q of %q", first, under)
	}
	second := run(t, under[:2]...) // over a chip of its own
	first[0] = "other"
	_ = append(first[:1], "other")
	if !slices.Equal(second, []string{"ok", "a=1"}) {
		t.Errorf("two answers share something: %q", second)
	}
}
