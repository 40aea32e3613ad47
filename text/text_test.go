package text

import (
	"math"
	"slices"
	"strings"
	"testing"
	"unsafe"

	"sprue/api"
)

func plain(s string, at int) Part { return Part{S: s, At: at} }

func act(s string, at int) Part { return Part{Action: true, S: s, At: at} }

// wantParts fails unless s is just these parts.
func wantParts(t *testing.T, s string, want ...Part) {
	t.Helper()
	got, e := Split(s)
	if e != api.OK || !slices.Equal(got, want) {
		t.Errorf("%.60q: %+v, %v; want %+v", s, got, e, want)
	}
}

// wantError fails unless s is refused with that error and nothing beside it.
func wantError(t *testing.T, s string, want api.Errno) {
	t.Helper()
	got, e := Split(s)
	if e != want || len(got) != 0 {
		t.Errorf("%.60q: %d parts, %v; want none, %v", s, len(got), e, want)
	}
}

func wantCount(t *testing.T, s string, want int) {
	t.Helper()
	got, e := Split(s)
	if e != api.OK || len(got) != want {
		t.Errorf("%.60q: %d parts, %v; want %d", s, len(got), e, want)
	}
}

func wantPlace(t *testing.T, s string, at, line, col int) {
	t.Helper()
	if l, c := Place(s, at); l != line || c != col {
		t.Errorf("%.60q at %d: %d, %d; want %d, %d", s, at, l, c, line, col)
	}
}

func TestP201Parts(t *testing.T) {
	wantParts(t, "")
	wantParts(t, "ab", plain("ab", 0))
	wantParts(t, "{{}}", act("", 0))
	wantParts(t, "{{ .a }}", act(" .a ", 0))
	wantParts(t, "a{{b}}c", plain("a", 0), act("b", 1), plain("c", 6))
	wantParts(t, "{{a}}{{b}}", act("a", 0), act("b", 5))
	wantParts(t, "{{a}} {{b}}", act("a", 0), plain(" ", 5), act("b", 6))
	wantParts(t, "a{{}}", plain("a", 0), act("", 1))
	wantParts(t, "{{}}a", act("", 0), plain("a", 4))
	wantParts(t, "\n{{\n}}\n", plain("\n", 0), act("\n", 1), plain("\n", 6))
	wantParts(t, `a{{ "}}" }}b`, plain("a", 0), act(` "}}" `, 1), plain("b", 11))
}

// P201: the first braces that open, and the first ones behind them that close.
func TestP201Braces(t *testing.T) {
	for _, s := range []string{"{", "}", "{ {", "}}", "}}}}", "a}}b", "{}", "{}{}", "{\n{", "} }", "{a{"} {
		wantParts(t, s, plain(s, 0))
	}
	wantParts(t, "{{{a}}", act("{a", 0))
	wantParts(t, "{{{{}}", act("{{", 0))
	wantParts(t, "{{{}}}", act("{", 0), plain("}", 5))
	wantParts(t, "{{a}}}", act("a", 0), plain("}", 5))
	wantParts(t, "{{}}}}", act("", 0), plain("}}", 4))
	wantParts(t, "{{a{{b}}c}}", act("a{{b", 0), plain("c}}", 8))
	wantParts(t, "{{}a}}", act("}a", 0))
	wantParts(t, "{{} }}", act("} ", 0))
	wantParts(t, "}}{{}}{", plain("}}", 0), act("", 2), plain("{", 6))
	wantParts(t, "{ {{}} }", plain("{ ", 0), act("", 2), plain(" }", 6))
}

func TestP201Quotes(t *testing.T) {
	wantParts(t, `{{"}}"}}`, act(`"}}"`, 0))
	wantParts(t, `{{""}}"}}`, act(`""`, 0), plain(`"}}`, 6))
	wantParts(t, `{{"a""}}"}}b`, act(`"a""}}"`, 0), plain("b", 11))
	wantParts(t, `{{"a"}}{{"}}"}}`, act(`"a"`, 0), act(`"}}"`, 7))
	wantParts(t, `{{"{{"}}`, act(`"{{"`, 0))
	wantParts(t, `{{"}"}"}}`+`"}}`, act(`"}"}"}}"`, 0))
	wantParts(t, "{{\"\n}}\n\"}}", act("\"\n}}\n\"", 0))
	wantParts(t, `{{'}}'}}`, act("'", 0), plain("'}}", 5))
	wantParts(t, "{{`}}`}}", act("`", 0), plain("`}}", 5))
	// Quotes within a text are bytes of it.
	wantParts(t, `"{{a}}"`, plain(`"`, 0), act("a", 1), plain(`"`, 6))
	wantParts(t, `"a{{}}`, plain(`"a`, 0), act("", 2))
	wantParts(t, `\{{a}}`, plain(`\`, 0), act("a", 1))
}

// P201: n backslashes ahead of a quote within quotes, which ends them just if n is even.
func TestP201Backslashes(t *testing.T) {
	for n := range 8 {
		inside := `"` + strings.Repeat(`\`, n) + `"`
		s := "{{" + inside + "}}"
		if n%2 == 0 {
			wantParts(t, s, act(inside, 0))
			wantParts(t, s+`"}}`, act(inside, 0), plain(`"}}`, len(s)))
			wantParts(t, "{{"+`"a`+inside[1:]+"}}x", act(`"a`+inside[1:], 0), plain("x", len(s)+1))
			continue
		}
		wantError(t, s, api.ErrToken)
		wantParts(t, s+`"}}`, act(inside+`}}"`, 0))
	}
	wantParts(t, `{{"\}}"}}`, act(`"\}}"`, 0))
	wantParts(t, `{{"\n\"}}\\"}}"}}`, act(`"\n\"}}\\"`, 0), plain(`"}}`, 14))
	wantParts(t, "{{\"\\\u00e9\"}}", act("\"\\\u00e9\"", 0))
	// One byte between parts it from the quote.
	wantParts(t, `{{"\a"}}`, act(`"\a"`, 0))
}

// P201: out of quotes a backslash means nothing: neither to the quote behind it nor to braces.
func TestP201BackslashOutOfQuotes(t *testing.T) {
	wantParts(t, `{{\}}`, act(`\`, 0))
	wantParts(t, `{{\\}}`, act(`\\`, 0))
	wantParts(t, `{{\"}}"}}`, act(`\"}}"`, 0))
	wantParts(t, `{{\\"}}"}}`, act(`\\"}}"`, 0))
	wantParts(t, `{{\"\"}}"}}`, act(`\"\"}}"`, 0))
	wantParts(t, `{{\""}}`, act(`\""`, 0))
	wantParts(t, `{{""\}}`, act(`""\`, 0))
	wantError(t, `{{\"}}`, api.ErrToken)
}

func TestP201NoEnd(t *testing.T) {
	for _, s := range []string{"{{", "{{}", "{{} }", "{{a", "a{{", "a{{b", "{{{", "{{{}", `{{"}}`, `{{"\"}}`, `{{""}`, `{{"" "}}`, "{{a}}{{b", "{{a}}{{b}", "{{}}{{", "}}{{", "{{\u00e9", "{{\xff", `{{"`, `{{"\`, `{{\`} {
		wantError(t, s, api.ErrToken)
	}
}

// P201: each byte, in a text and in an action, with and without quotes.
func TestP201Bytes(t *testing.T) {
	for i := range 256 {
		c := string([]byte{byte(i)})
		wantParts(t, c, plain(c, 0))
		wantParts(t, "a"+c+"b{{}}", plain("a"+c+"b", 0), act("", 3))
		if c != `"` {
			wantParts(t, "{{"+c+" }}", act(c+" ", 0))
			wantParts(t, `{{"}}`+c+`  "}}`, act(`"}}`+c+`  "`, 0))
		}
	}
	// What is cut off from a longer rune doesn't swallow what follows it.
	for _, c := range []string{"\xc3", "\xe2\x82", "\xf0\x9f\x98", "\xff", "\x80"} {
		wantParts(t, "{{"+c+"}}", act(c, 0))
		wantParts(t, `{{"}}`+c+`"}}`, act(`"}}`+c+`"`, 0))
		wantParts(t, `{{"\`+c+`"}}`, act(`"\`+c+`"`, 0))
		wantParts(t, c+"{{}}", plain(c, 0), act("", len(c)))
	}
	wantParts(t, "\u20ac{{\u20ac}}\u20ac", plain("\u20ac", 0), act("\u20ac", 3), plain("\u20ac", 10))
}

func TestP201SourceBounds(t *testing.T) {
	long := strings.Repeat("x", 1500)
	wantParts(t, long, plain(long, 0))
	wantError(t, long+"x", api.ErrLong)
	wantParts(t, "{{"+long[:1496]+"}}", act(long[:1496], 0))
	wantError(t, "{{"+long[:1497]+"}}", api.ErrLong)
	wantError(t, strings.Repeat("\u00e9", 751), api.ErrLong)
	wantCount(t, strings.Repeat("\u00e9", 750), 1)
	// The source's length is asked ahead of all else.
	wantError(t, "{{"+long[:1499], api.ErrLong)
	wantError(t, "{{"+long[:1498], api.ErrToken)
	wantError(t, strings.Repeat("{{}}", 376), api.ErrLong)
	wantError(t, strings.Repeat("{{}}", 375), api.ErrMany)
	wantError(t, strings.Repeat("x", 1<<20), api.ErrLong)
}

func TestP201PartBounds(t *testing.T) {
	wantCount(t, strings.Repeat("{{}}", 199), 199)
	wantCount(t, strings.Repeat("{{}}", 200), 200)
	wantError(t, strings.Repeat("{{}}", 201), api.ErrMany)
	wantCount(t, strings.Repeat("{{}}x", 100), 200)
	wantError(t, strings.Repeat("{{}}x", 100)+"{{}}", api.ErrMany)
	wantError(t, "x"+strings.Repeat("{{}}x", 100), api.ErrMany)
	wantCount(t, "x"+strings.Repeat("{{}}", 199), 200)
	wantCount(t, strings.Repeat("{{}}", 199)+"x", 200)
	wantError(t, "x"+strings.Repeat("{{}}", 200), api.ErrMany)
	wantError(t, strings.Repeat("{{}}", 200)+"x", api.ErrMany)
	// An action that does not end is told ahead of too many parts.
	wantError(t, strings.Repeat("{{}}", 201)+"{{", api.ErrToken)
	wantError(t, strings.Repeat("{{}}", 300)+`{{"}}`, api.ErrToken)
	wantError(t, strings.Repeat("{{}}", 200)+"{{}", api.ErrToken)
}

func TestP202Place(t *testing.T) {
	wantPlace(t, "", 0, 1, 1)
	wantPlace(t, "abc", 0, 1, 1)
	wantPlace(t, "abc", 2, 1, 3)
	wantPlace(t, "abc", 3, 1, 4)
	// A line feed is the last byte of its line.
	wantPlace(t, "\n", 0, 1, 1)
	wantPlace(t, "\n", 1, 2, 1)
	wantPlace(t, "ab\ncd", 2, 1, 3)
	wantPlace(t, "ab\ncd", 3, 2, 1)
	wantPlace(t, "ab\ncd", 4, 2, 2)
	wantPlace(t, "ab\ncd\n", 6, 3, 1)
	wantPlace(t, "\n\n\n", 2, 3, 1)
	wantPlace(t, "\n\n\nx", 4, 4, 2)
	// No other byte parts lines, and columns are of bytes, not of runes.
	wantPlace(t, "a\rb\vc\fd\u0085e\u2028f", 14, 1, 15)
	wantPlace(t, "a\r\nb", 3, 2, 1)
	wantPlace(t, "\u00e9x", 1, 1, 2)
	wantPlace(t, "\u00e9x", 2, 1, 3)
	wantPlace(t, "\n\xff\xfe\n", 3, 2, 3)
	wantPlace(t, "\tx", 1, 1, 2)
}

func TestP202Bounds(t *testing.T) {
	for _, at := range []int{-1, -2, math.MinInt32, math.MinInt} {
		wantPlace(t, "", at, 1, 1)
		wantPlace(t, "\nab", at, 1, 1)
	}
	for _, at := range []int{4, 5, 99, math.MaxInt32, math.MaxInt} {
		wantPlace(t, "", at, 1, 1)
		wantPlace(t, "a\nbc", at, 2, 3)
		wantPlace(t, "abc\n", at, 2, 1)
	}
	// It is not only for sources: no bound holds here.
	wantPlace(t, strings.Repeat("ab\n", 1<<16), 3<<16-1, 1<<16, 3)
	wantPlace(t, strings.Repeat("x", 1<<16), 1<<20, 1, 1<<16+1)
}

// P202: every place of every short text, counted byte by byte.
func TestP202EveryPlace(t *testing.T) {
	eachText("a\n\r\xc3", 5, func(s string) {
		line, col := 1, 1
		for at := range len(s) + 1 {
			wantPlace(t, s, at, line, col)
			if at < len(s) && s[at] == '\n' {
				line, col = line+1, 0
			}
			col++
		}
	})
}

// join puts parts together again, with their braces.
func join(parts []Part) string {
	var b strings.Builder
	for _, p := range parts {
		if p.Action {
			b.WriteString("{{" + p.S + "}}")
		} else {
			b.WriteString(p.S)
		}
	}
	return b.String()
}

// wantWhole fails unless the parts are s: put together, and each at its place; texts neither empty nor side by side.
func wantWhole(t *testing.T, s string, parts []Part) {
	t.Helper()
	if join(parts) != s {
		t.Fatalf("%.80q: %+v put together is %.80q", s, parts, join(parts))
	}
	for i, p := range parts {
		if p.At != len(join(parts[:i])) {
			t.Fatalf("%.80q: part %d is at %d", s, i, p.At)
		}
		if !p.Action && (p.S == "" || i > 0 && !parts[i-1].Action) {
			t.Fatalf("%.80q: part %d: %+v", s, i, p)
		}
	}
}

func TestP203Whole(t *testing.T) {
	for _, s := range []string{"", "a", "{{}}", "a{{b}}c", "{{{}}}", `{{"}}"}}{{"\""}} x {{ . }}`, "\xff{{\xff}}\xff", strings.Repeat("{{}}", 200)} {
		parts, e := Split(s)
		if e != api.OK {
			t.Fatalf("%.80q: %v", s, e)
		}
		wantWhole(t, s, parts)
	}
}

// slowSplit is the promise once more, by other means: each place is asked by itself, from what stands ahead of it.
func slowSplit(s string) ([]Part, api.Errno) {
	if len(s) > 1500 {
		return nil, api.ErrLong
	}
	var out []Part
	text, at := 0, 0
	for at < len(s) {
		if !strings.HasPrefix(s[at:], "{{") {
			at++
			continue
		}
		end := slowEnd(s, at+2)
		if end < 0 {
			return nil, api.ErrToken
		}
		if text < at {
			out = append(out, plain(s[text:at], text))
		}
		out = append(out, act(s[at+2:end], at))
		at = end + 2
		text = at
	}
	if text < at {
		out = append(out, plain(s[text:at], text))
	}
	if len(out) > 200 {
		return nil, api.ErrMany
	}
	return out, api.OK
}

// slowEnd finds the closing braces from a place on; -1: none.
func slowEnd(s string, from int) int {
	for i := from; i+1 < len(s); i++ {
		if s[i] == '}' && s[i+1] == '}' {
			return i
		}
		if s[i] == '"' {
			i = slowQuoteEnd(s, i+1)
		}
	}
	return -1
}

func slowQuoteEnd(s string, from int) int {
	for i := from; i < len(s); i++ {
		ahead := s[from:i]
		slashes := len(ahead) - len(strings.TrimRight(ahead, `\`))
		if s[i] == '"' && slashes%2 == 0 {
			return i
		}
	}
	return len(s)
}

func same(t *testing.T, s string) {
	t.Helper()
	got, e := Split(s)
	want, f := slowSplit(s)
	if e != f || !slices.Equal(got, want) {
		t.Fatalf("%.80q: %+v, %v; want %+v, %v", s, got, e, want, f)
	}
	if e == api.OK {
		wantWhole(t, s, got)
	}
}

// eachText hands on every text of up to size of these bytes.
func eachText(bytes string, size int, to func(s string)) {
	var grow func(s string, left int)
	grow = func(s string, left int) {
		to(s)
		for i := 0; left > 0 && i < len(bytes); i++ {
			grow(s+bytes[i:i+1], left-1)
		}
	}
	grow("", size)
}

// P201, P203: every short source, and every short source behind opening braces, held against the promise written otherwise.
func TestP201EveryShortSource(t *testing.T) {
	eachText("{}\"\\a", 6, func(s string) {
		same(t, s)
		same(t, "{{"+s)
		same(t, "{{"+s+"}}")
		same(t, "{{\""+s+"\"}}")
	})
}

// row is a row of numbers that looks like none, and is the same in each run.
type row uint64

func (r *row) below(n int) int {
	*r = *r*6364136223846793005 + 1442695040888963407
	return int(uint64(*r)>>33) % n
}

// P201, P203: longer sources out of pieces, up to their bounds and beyond.
func TestP201ManySources(t *testing.T) {
	pieces := []string{"{{", "}}", "{", "}", "\"", "\\", "\\\\", "\\\"", " ", "\n", "a", "\u00e9", "\xe2\x82", "\xff", "\"}}\"", "{{}}", "{{a}}", "{{ \"}}\\\"\" }}", strings.Repeat("{{}}", 60), strings.Repeat("x", 400)}
	r := row(1)
	for range 30000 {
		var b strings.Builder
		for range r.below(20) {
			b.WriteString(pieces[r.below(len(pieces))])
		}
		same(t, b.String())
	}
}

// P1, P3, P4: bytes of any kind; every call ends, answers alike, and nothing beside an error.
func TestAnyBytes(t *testing.T) {
	r := row(2)
	for range 20000 {
		b := make([]byte, r.below(1520))
		if r.below(2) == 0 {
			b = b[:min(len(b), 8)]
		}
		for i := range b {
			b[i] = byte(r.below(256))
		}
		s := string(b)
		first, e := Split(s)
		again, f := Split(s)
		if e != f || !slices.Equal(first, again) {
			t.Fatalf("%q: %v, %v; then %v, %v", s, first, e, again, f)
		}
		if e != api.OK && len(first) != 0 {
			t.Fatalf("%q: %v beside %v", s, first, e)
		}
		same(t, s)
	}
}

// P2: an answer that its owner changes, its spare room too, changes no later one.
func TestP2NewMemory(t *testing.T) {
	const s = "a{{b}}c{{}}d"
	want, _ := Split(s)
	want = slices.Clone(want)
	got, _ := Split(s)
	got = got[:cap(got)]
	for i := range got {
		got[i] = Part{Action: true, S: "changed", At: 9}
	}
	wantParts(t, s, want...)
}

// P2: no part is a piece of the source's memory, which it would keep.
func TestP2NothingKept(t *testing.T) {
	s := strings.Repeat("ab{{cd}}", 20)
	front := uintptr(unsafe.Pointer(unsafe.StringData(s)))
	parts, e := Split(s)
	if e != api.OK || len(parts) != 40 {
		t.Fatalf("%d parts, %v", len(parts), e)
	}
	for _, p := range parts {
		if at := uintptr(unsafe.Pointer(unsafe.StringData(p.S))); front <= at && at < front+uintptr(len(s)) {
			t.Fatalf("%+v lies in its source", p)
		}
	}
}
