package scan

import (
	"math/big"
	"regexp"
	"slices"
	"strconv"
	"strings"
	"testing"

	"sprue/api"
)

func word1(kind int, text string, at int) Token { return Token{Kind: kind, Text: text, At: at} }

func int1(n int64, at int) Token { return Token{Kind: Int, N: n, At: at} }

// wantTokens fails unless s is just these words.
func wantTokens(t *testing.T, s string, want ...Token) {
	t.Helper()
	got, e := Tokens(s)
	if e != api.OK || !slices.Equal(got, want) {
		t.Errorf("%.60q: %+v, %v; want %+v", s, got, e, want)
	}
}

// wantError fails unless s is refused with that error and nothing beside it.
func wantError(t *testing.T, s string, want api.Errno) {
	t.Helper()
	got, e := Tokens(s)
	if e != want || len(got) != 0 {
		t.Errorf("%.60q: %d words, %v; want none, %v", s, len(got), e, want)
	}
}

func wantCount(t *testing.T, s string, want int) {
	t.Helper()
	got, e := Tokens(s)
	if e != api.OK || len(got) != want {
		t.Errorf("%.60q: %d words, %v; want %d", s, len(got), e, want)
	}
}

// P101, W1: each byte alone, at a name's front and behind it.
func TestP101IdentBytes(t *testing.T) {
	const letters = "ABCDEFGHIJKLMNOPQRSTUVWXYZabcdefghijklmnopqrstuvwxyz_"
	const digits = "0123456789"
	for i := range 256 {
		c := string([]byte{byte(i)})
		front := strings.Contains(letters, c)
		behind := front || strings.Contains(digits, c)
		if Ident(c) != front {
			t.Errorf("%q alone: %v", c, !front)
		}
		if Ident("a"+c) != behind || Ident("a"+c+"b") != behind {
			t.Errorf("%q behind a letter: not %v", c, behind)
		}
	}
}

func TestP101IdentBounds(t *testing.T) {
	for n := range 40 {
		want := n >= 1 && n <= 16
		for _, c := range []string{"x", "_", "Z"} {
			if Ident(strings.Repeat(c, n)) != want {
				t.Errorf("%d times %s: %v", n, c, !want)
			}
		}
	}
	for _, s := range []string{"true", "_1", "a0123456789_AZaz"} {
		if !Ident(s) {
			t.Errorf("%q is a name", s)
		}
	}
	for _, s := range []string{"", "0", "1a", " a", "a ", "a\n", "a.b", "-a", "\u00e9", "a\u00e9", "a\xff", "\u0661", "a\u0661", "\u212a", "a\x00"} {
		if Ident(s) {
			t.Errorf("%q is no name", s)
		}
	}
}

func TestP101Names(t *testing.T) {
	wantTokens(t, "a.b", word1(Name, "a", 0), word1(Sign, ".", 1), word1(Name, "b", 2))
	wantTokens(t, "_ A9 a_b", word1(Name, "_", 0), word1(Name, "A9", 2), word1(Name, "a_b", 5))
	wantTokens(t, "abcdefghijklmnop", word1(Name, "abcdefghijklmnop", 0))
	wantError(t, "abcdefghijklmnopq", api.ErrLong)
	wantError(t, "a"+strings.Repeat("0", 16), api.ErrLong)
	wantTokens(t, "12ab", int1(12, 0), word1(Name, "ab", 2))
	wantError(t, "a\u00e9", api.ErrToken)
}

func TestP101Ints(t *testing.T) {
	wantTokens(t, "0 7 42", int1(0, 0), int1(7, 2), int1(42, 4))
	wantTokens(t, "-5", int1(-5, 0))
	wantTokens(t, "-0 -007 008", int1(0, 0), int1(-7, 3), int1(8, 8))
	wantTokens(t, "5-5", int1(5, 0), int1(-5, 1))
	wantTokens(t, "a-5b", word1(Name, "a", 0), int1(-5, 1), word1(Name, "b", 3))
	wantTokens(t, "1_0", int1(1, 0), word1(Name, "_0", 1))
	wantTokens(t, "0x1f", int1(0, 0), word1(Name, "x1f", 1))
	wantTokens(t, "->-1", word1(Sign, "->", 0), int1(-1, 2))
	wantTokens(t, "-1->", int1(-1, 0), word1(Sign, "->", 2))
	for _, s := range []string{"- 5", "-", "--5", "-a", "-.", "-\"5\"", "+5", "-\u0661", "\u0661", "5-"} {
		wantError(t, s, api.ErrToken)
	}
}

func TestP101IntBounds(t *testing.T) {
	wantTokens(t, "9223372036854775807", int1(1<<63-1, 0))
	wantTokens(t, "-9223372036854775808", int1(-1<<63, 0))
	wantTokens(t, "-9223372036854775807", int1(-1<<63+1, 0))
	wantTokens(t, "0000000000000000001", int1(1, 0))
	wantTokens(t, "-0000000000000000001", int1(-1, 0))
	wantError(t, "9223372036854775808", api.ErrToken)
	wantError(t, "-9223372036854775809", api.ErrToken)
	wantError(t, "9999999999999999999", api.ErrToken)
	wantError(t, "-9999999999999999999", api.ErrToken)
	// Their digits are counted ahead of what they say.
	wantError(t, "00000000000000000001", api.ErrLong)
	wantError(t, "-00000000000000000001", api.ErrLong)
	wantError(t, "99999999999999999999", api.ErrLong)
	wantError(t, "-"+strings.Repeat("9", 1499), api.ErrLong)
}

func TestP101Strs(t *testing.T) {
	wantTokens(t, `""`, word1(Str, "", 0))
	wantTokens(t, `"a b" "c"`, word1(Str, "a b", 0), word1(Str, "c", 6))
	wantTokens(t, `"a""b"`, word1(Str, "a", 0), word1(Str, "b", 3))
	wantTokens(t, `"\\\"\n\t"x`, word1(Str, "\\\"\n\t", 0), word1(Name, "x", 10))
	wantTokens(t, `"\\n"`, word1(Str, `\n`, 0))
	wantTokens(t, `"\\"n`, word1(Str, `\`, 0), word1(Name, "n", 4))
	wantTokens(t, `"-5 -> {:="`, word1(Str, "-5 -> {:=", 0))
	wantTokens(t, "\"\u00e9\xff\x80\x7f \"", word1(Str, "\u00e9\xff\x80\x7f ", 0))
	for _, s := range []string{`"`, `"a`, `"\"`, `"\\\"`, `"\`, `"a\`, `"""`, `"a" "`} {
		wantError(t, s, api.ErrToken)
	}
}

// P101: each byte in a text, as it is and behind a backslash.
func TestP101StrBytes(t *testing.T) {
	means := map[byte]string{'\\': "\\", '"': "\"", 'n': "\n", 't': "\t"}
	for i := range 256 {
		c := byte(i)
		plain := "\"" + string([]byte{c}) + "\""
		switch {
		case c < 32, c == '\\', c == '"':
			wantError(t, plain, api.ErrToken)
		default:
			wantTokens(t, plain, word1(Str, plain[1:2], 0))
		}
		if m, ok := means[c]; ok {
			wantTokens(t, "\"\\"+plain[1:], word1(Str, m, 0))
		} else {
			wantError(t, "\"\\"+plain[1:], api.ErrToken)
		}
	}
}

func TestP101StrBounds(t *testing.T) {
	long := strings.Repeat("x", 200)
	wantTokens(t, "\""+long+"\"", word1(Str, long, 0))
	wantError(t, "\""+long+"x\"", api.ErrLong)
	// What counts is what a text means, not how it is written.
	wantTokens(t, "\""+strings.Repeat(`\n`, 200)+"\"", word1(Str, strings.Repeat("\n", 200), 0))
	wantError(t, "\""+strings.Repeat(`\t`, 201)+"\"", api.ErrLong)
	wantError(t, "\""+strings.Repeat("\u00e9", 101)+"\"", api.ErrLong)
	// Wrong bytes, and no end, are named ahead of the length.
	wantError(t, "\""+long+"x", api.ErrToken)
	wantError(t, "\""+long+"x\\r\"", api.ErrToken)
	wantError(t, "\""+long+"x\n\"", api.ErrToken)
	wantError(t, "\""+long+"x\\", api.ErrToken)
	wantError(t, "\""+long+"x\" !", api.ErrLong)
}

func TestP101Signs(t *testing.T) {
	all := []string{"->", ":=", "{", "}", "<", ">", ",", ":", "(", ")", ".", "$", "|", "=", ";"}
	for _, s := range all {
		wantTokens(t, s, word1(Sign, s, 0))
	}
	wantTokens(t, "::==:", word1(Sign, ":", 0), word1(Sign, ":=", 1), word1(Sign, "=", 3), word1(Sign, ":", 4))
	wantTokens(t, ": =", word1(Sign, ":", 0), word1(Sign, "=", 2))
	wantTokens(t, ">->", word1(Sign, ">", 0), word1(Sign, "->", 1))
	wantError(t, "- >", api.ErrToken)
}

// P101: each byte alone that begins no word, and is no blank, is refused.
func TestP101Bytes(t *testing.T) {
	const front = "{}<>,:().$|=;_"
	for i := range 256 {
		c := byte(i)
		s := string([]byte{c})
		switch {
		case strings.Contains(" \t\n\r", s):
			wantTokens(t, s)
		case strings.Contains(front, s), '0' <= c && c <= '9', 'A' <= c && c <= 'Z', 'a' <= c && c <= 'z':
			wantCount(t, s, 1)
		default:
			wantError(t, s, api.ErrToken)
			wantError(t, "a "+s+" b", api.ErrToken)
		}
	}
}

func TestP101SourceBounds(t *testing.T) {
	wantTokens(t, "")
	wantTokens(t, strings.Repeat(" ", 1500))
	wantError(t, strings.Repeat(" ", 1501), api.ErrLong)
	wantTokens(t, strings.Repeat("\n", 1499)+"a", word1(Name, "a", 1499))
	// The source's length is asked ahead of its words.
	wantError(t, strings.Repeat("!", 1501), api.ErrLong)
	wantError(t, strings.Repeat("!", 1500), api.ErrToken)
	wantError(t, strings.Repeat(".", 1501), api.ErrLong)
}

func TestP101TokenBounds(t *testing.T) {
	wantCount(t, strings.Repeat(".", 399), 399)
	wantCount(t, strings.Repeat(".", 400), 400)
	wantError(t, strings.Repeat(".", 401), api.ErrMany)
	wantError(t, strings.Repeat(".", 1500), api.ErrMany)
	wantCount(t, strings.Repeat("a \n", 400), 400)
	wantError(t, strings.Repeat("a ", 401), api.ErrMany)
	// Too many words are told behind every other fault.
	wantError(t, strings.Repeat(".", 401)+"!", api.ErrToken)
	wantError(t, strings.Repeat(".", 401)+"abcdefghijklmnopq", api.ErrLong)
	wantError(t, strings.Repeat(".", 1499)+"\"", api.ErrToken)
}

// P101, P6: of several faults the leftmost is told.
func TestP101FirstError(t *testing.T) {
	wantError(t, "! 99999999999999999999", api.ErrToken)
	wantError(t, "99999999999999999999 !", api.ErrLong)
	wantError(t, "abcdefghijklmnopq \"", api.ErrLong)
	wantError(t, "\"\\r\" abcdefghijklmnopq", api.ErrToken)
	wantError(t, "9223372036854775808 abcdefghijklmnopq", api.ErrToken)
}

// P102: blanks between words change nothing but places.
func TestP102Blanks(t *testing.T) {
	parts := []string{"a", ".", "b", "-5", "->", "7", ":=", "=", ":", "\" x \"", "$", "_", "(", "\"\\n\"", "{", "-9223372036854775808", ";"}
	plain := strings.Join(parts, " ")
	want, e := Tokens(plain)
	if e != api.OK || len(want) != len(parts) {
		t.Fatalf("%q: %v, %v", plain, want, e)
	}
	for _, blank := range []string{"\t", "\n", "\r", "  ", " \t\n\r", "\r\n\r\n"} {
		at := len(blank)
		moved := slices.Clone(want)
		for i := range moved {
			moved[i].At = at
			at += len(parts[i]) + len(blank)
		}
		wantTokens(t, blank+strings.Join(parts, blank)+blank, moved...)
	}
}

func TestP102BlanksWhereNoneNeed(t *testing.T) {
	for tight, loose := range map[string]string{"a.b": "a . b", "$x:=-5": "$ x := -5", "f(\"a\")->1": "f ( \"a\" ) -> 1", "5-5": "5 -5", "1a": "1 a", "::=": ": :="} {
		a, e := Tokens(tight)
		b, f := Tokens(loose)
		if e != api.OK || f != api.OK || !slices.Equal(unplaced(a), unplaced(b)) {
			t.Errorf("%q: %v, %v; %q: %v, %v", tight, a, e, loose, b, f)
		}
	}
	// Within a text they are its bytes; what else is a blank elsewhere is none here.
	wantTokens(t, `" a "`, word1(Str, " a ", 0))
	for _, s := range []string{"a\vb", "a\fb", "a\x00b", "a\u00a0b", "a\u0085b", "a\u2028b", "\ufeffa"} {
		wantError(t, s, api.ErrToken)
	}
}

func unplaced(l []Token) []Token {
	out := slices.Clone(l)
	for i := range out {
		out[i].At = 0
	}
	return out
}

var oracle = regexp.MustCompile(`^(?s:([A-Za-z_][A-Za-z0-9_]*)|(-?[0-9]+)|("(?:[^"\\\x00-\x1f]|\\[\\"nt])*")|(->|:=|[{}<>,:().$|=;]))`)

// slowTokens is the promise once more, by other means: of sources that are not too long.
func slowTokens(s string) ([]Token, api.Errno) {
	var out []Token
	for at := 0; at < len(s); {
		if strings.IndexByte(" \t\n\r", s[at]) >= 0 {
			at++
			continue
		}
		m := oracle.FindStringSubmatch(s[at:])
		if m == nil {
			return nil, api.ErrToken
		}
		x := Token{At: at}
		switch {
		case m[1] != "":
			x.Kind, x.Text = Name, m[1]
			if len(x.Text) > 16 {
				return nil, api.ErrLong
			}
		case m[2] != "":
			if len(strings.TrimLeft(m[2], "-")) > 19 {
				return nil, api.ErrLong
			}
			n, _ := new(big.Int).SetString(m[2], 10)
			if !n.IsInt64() {
				return nil, api.ErrToken
			}
			x.Kind, x.N = Int, n.Int64()
		case m[3] != "":
			x.Kind = Str
			x.Text, _ = strconv.Unquote(m[3])
			if len(x.Text) > 200 {
				return nil, api.ErrLong
			}
		default:
			x.Kind, x.Text = Sign, m[4]
		}
		out = append(out, x)
		at += len(m[0])
	}
	if len(out) > 400 {
		return nil, api.ErrMany
	}
	return out, api.OK
}

// row is a row of numbers that looks like none, and is the same in each run.
type row uint64

func (r *row) below(n int) int {
	*r = *r*6364136223846793005 + 1442695040888963407
	return int(uint64(*r)>>33) % n
}

func same(t *testing.T, s string) {
	t.Helper()
	got, e := Tokens(s)
	want, f := slowTokens(s)
	if e != f || !slices.Equal(got, want) {
		t.Fatalf("%.80q: %+v, %v; want %+v, %v", s, got, e, want, f)
	}
}

// P101, P102: every source of up to five of these bytes, held against the promise written otherwise.
func TestP101EveryShortSource(t *testing.T) {
	const bytes = "a1_->:=\"\\n \n.!"
	var grow func(s string, left int)
	grow = func(s string, left int) {
		same(t, s)
		for i := 0; left > 0 && i < len(bytes); i++ {
			grow(s+bytes[i:i+1], left-1)
		}
	}
	grow("", 5)
}

// P101: longer sources out of pieces, of words at their bounds too; ASCII, for the other way reads runes.
func TestP101ManySources(t *testing.T) {
	pieces := []string{"a", "abcdefghijklmnop", "Z_9", "0", "-", "-5", "9223372036854775807", "8", "->", ":", "=", ".", "$", "\"", "\"x\"", "\"\\n\"", "\\", " ", "\n", "\t", "\r", "(", ")", "{", "}", "|", ";", ",", "<", ">", "\"" + strings.Repeat("y", 199) + "\"", strings.Repeat(".", 150)}
	r := row(1)
	for range 30000 {
		var b strings.Builder
		for range r.below(14) {
			p := pieces[r.below(len(pieces))]
			if b.Len()+len(p) <= 1500 {
				b.WriteString(p)
			}
		}
		same(t, b.String())
	}
}

// P1, P3, P4: bytes of any kind; every call ends, answers alike, and nothing beside an error.
func TestAnyBytes(t *testing.T) {
	r := row(2)
	for range 20000 {
		b := make([]byte, r.below(1520))
		if r.below(2) == 0 {
			b = b[:min(len(b), 8)]
		}
		for i := range b {
			b[i] = byte(r.below(256))
		}
		s := string(b)
		first, e := Tokens(s)
		again, f := Tokens(s)
		if e != f || !slices.Equal(first, again) || Ident(s) != Ident(s) {
			t.Fatalf("%q: %v, %v; then %v, %v", s, first, e, again, f)
		}
		if e != api.OK && len(first) != 0 {
			t.Fatalf("%q: %v beside %v", s, first, e)
		}
	}
}

// P2: an answer that its owner changes, its spare room too, changes no later one.
func TestP2NewMemory(t *testing.T) {
	const s = "a \"b\" -5 -> c"
	want, _ := Tokens(s)
	want = slices.Clone(want)
	got, _ := Tokens(s)
	got = got[:cap(got)]
	for i := range got {
		got[i] = Token{Kind: 9, Text: "changed", N: 9, At: 9}
	}
	wantTokens(t, s, want...)
}
