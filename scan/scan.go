// Package scan: words of sources. See doc/01-scan.md.
package scan

import (
	"strconv"
	"strings"

	"sprue/api"
)

// Kinds of tokens.
const (
	Name = 1
	Str  = 2
	Int  = 3
	Sign = 4
)

type Token struct {
	Kind int
	Text string // a name, a text's bytes, a sign
	N    int64
	At   int
}

const (
	blanks    = " \t\n\r"
	maxDigits = 19
	maxText   = 200
)

// signs: the longer ones stand first, for the first that fits is taken.
var signs = [...]string{"->", ":=", "{", "}", "<", ">", ",", ":", "(", ")", ".", "$", "|", "=", ";"}

// Ident tells whether s is a name.
func Ident(s string) bool {
	return s != "" && len(s) <= api.MaxIdent && nameSize(s) == len(s)
}

// Tokens takes a source to words.
func Tokens(s string) ([]Token, api.Errno) {
	if len(s) > api.MaxSource {
		return nil, api.ErrLong
	}
	var words []Token
	for at := blankSize(s); at < len(s); at += blankSize(s[at:]) {
		t, size, e := word(s[at:])
		if e != api.OK {
			return nil, e
		}
		t.At = at
		words = append(words, t)
		at += size
	}
	// Too many is told last: any word that is none, however far behind, comes first.
	if len(words) > api.MaxTokens {
		return nil, api.ErrMany
	}
	return words, api.OK
}

// blankSize counts the blanks at the front of s.
func blankSize(s string) int {
	return len(s) - len(strings.TrimLeft(s, blanks))
}

// word reads the word at the front of s, which is not empty, and counts its bytes.
func word(s string) (t Token, size int, e api.Errno) {
	switch c := s[0]; {
	case c == '"':
		return quoted(s)
	case c == '-':
		// Without a digit right behind it, it may still begin an arrow.
		if digitSize(s[1:]) == 0 {
			return sign(s)
		}
		fallthrough
	case digit(rune(c)):
		return number(s)
	case letter(rune(c)):
		return name(s)
	}
	return sign(s)
}

func name(s string) (t Token, size int, e api.Errno) {
	size = nameSize(s)
	if size > api.MaxIdent {
		return Token{}, 0, api.ErrLong
	}
	// Cloned: a piece of the source would keep the whole source.
	return Token{Kind: Name, Text: strings.Clone(s[:size])}, size, api.OK
}

func number(s string) (t Token, size int, e api.Errno) {
	unsigned := strings.TrimPrefix(s, "-")
	digits := digitSize(unsigned)
	if digits > maxDigits {
		return Token{}, 0, api.ErrLong
	}
	size = len(s) - len(unsigned) + digits
	n, err := strconv.ParseInt(s[:size], 10, 64)
	if err != nil {
		return Token{}, 0, api.ErrToken
	}
	return Token{Kind: Int, N: n}, size, api.OK
}

func quoted(s string) (t Token, size int, e api.Errno) {
	var b []byte
	for i := 1; i < len(s); i++ {
		c := s[i]
		switch {
		case c == '"':
			// Only here: a fault of its bytes, even one far behind, comes ahead of its length.
			if len(b) > maxText {
				return Token{}, 0, api.ErrLong
			}
			return Token{Kind: Str, Text: string(b)}, i + 1, api.OK
		case c < ' ':
			return Token{}, 0, api.ErrToken
		case c == '\\':
			i++
			if c = meant(s[i:]); c == 0 {
				return Token{}, 0, api.ErrToken
			}
			fallthrough
		default:
			b = append(b, c)
		}
	}
	return Token{}, 0, api.ErrToken
}

// meant is the byte that a backslash ahead of s means; 0: none.
func meant(s string) byte {
	if s == "" {
		return 0
	}
	switch s[0] {
	case '\\', '"':
		return s[0]
	case 'n':
		return '\n'
	case 't':
		return '\t'
	}
	return 0
}

func sign(s string) (t Token, size int, e api.Errno) {
	for _, x := range signs {
		if strings.HasPrefix(s, x) {
			return Token{Kind: Sign, Text: x}, len(x), api.OK
		}
	}
	return Token{}, 0, api.ErrToken
}

// nameSize counts the bytes at the front of s that a name would have, were none too long.
func nameSize(s string) int {
	for i, r := range s {
		if !letter(r) && (i == 0 || !digit(r)) {
			return i
		}
	}
	return len(s)
}

// digitSize counts the digits at the front of s.
func digitSize(s string) int {
	for i, r := range s {
		if !digit(r) {
			return i
		}
	}
	return len(s)
}

func digit(r rune) bool {
	return '0' <= r && r <= '9'
}

// letter tells whether a name may begin with r.
func letter(r rune) bool {
	return r == '_' || 'a' <= r && r <= 'z' || 'A' <= r && r <= 'Z'
}
