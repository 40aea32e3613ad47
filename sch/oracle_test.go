package sch

import (
	"slices"
	"strconv"
	"strings"
	"testing"

	"sprue/api"
	"sprue/scan"
)

// row is a row of numbers that looks like none, and is the same in each run.
type row uint64

func (r *row) below(n int) int {
	*r = *r*6364136223846793005 + 1442695040888963407
	return int(uint64(*r)>>33) % n
}

// shuffled is the numbers below n, in some order.
func (r *row) shuffled(n int) []int {
	l := make([]int, n)
	for i := range l {
		k := r.below(i + 1)
		l[i], l[k] = l[k], i
	}
	return l
}

// machine is the promise once more, by other means: the rules as rows of signs on a stack. What is to come stands there, the next last: 'word' a word, N a name, and by a letter what the rules say; behind a T, an F how deep.
type machine struct {
	stack []string
	names [][]string // of what is open: a record's; the first two: named types, functions
	twice bool
}

func (m *machine) push(all string) {
	l := strings.Fields(all)
	slices.Reverse(l)
	m.stack = append(m.stack, l...)
}

// expand puts what a sign stands for in its place, by the word that is next; false: no rule has that word there.
func (m *machine) expand(sign string, next scan.Token) bool {
	word := next.Text
	if next.Kind == scan.Str || next.Kind == scan.Int {
		word = "\x00"
	}
	deeper := sign[1:]
	if n, err := strconv.Atoi(deeper); err == nil {
		deeper = strconv.Itoa(n + 1)
	}
	isName := next.Kind == scan.Name
	switch {
	case sign == "rest" && word == "":
	case sign == "rest" && word == "type" && isName:
		m.push("'type A '= T1 '; rest")
	case sign == "rest" && word == "fn" && isName:
		m.push("'fn B '( params ') '-> T1 '; rest")
	case sign == "params" && word == ")":
	case sign == "params":
		m.push("T1 moreparams")
	case sign == "moreparams" && word == ",":
		m.push("', T1 moreparams")
	case sign == "moreparams":
	case sign[0] == 'T' && word == "{":
		m.push("R" + deeper)
	case sign[0] == 'T' && !isName:
		return false
	case sign[0] == 'T' && (word == "List" || word == "Map" || word == "Opt"):
		m.push("'" + word + " '< T" + deeper + " '>")
	case sign[0] == 'T' && word == "Union":
		m.push("'Union R" + deeper)
	case sign[0] == 'T':
		m.push("'" + word)
	case sign[0] == 'R':
		m.push("'{ open F" + sign[1:] + " close '}")
	case sign[0] == 'F' && word == "}":
	case sign[0] == 'F':
		m.push("C ': T" + sign[1:] + " M" + sign[1:])
	case sign[0] == 'M' && word == ",":
		m.push("', C ': T" + sign[1:] + " M" + sign[1:])
	case sign[0] == 'M':
	default:
		return false
	}
	return true
}

// note takes a name to those of its place.
func (m *machine) note(place int, name string) {
	m.twice = m.twice || slices.Contains(m.names[place], name)
	m.names[place] = append(m.names[place], name)
}

// step does what the next sign says; how many words it read.
func (m *machine) step(next scan.Token) (int, api.Errno) {
	sign := m.stack[len(m.stack)-1]
	m.stack = m.stack[:len(m.stack)-1]
	switch {
	case sign == "open":
		m.names = append(m.names, nil)
		return 0, api.OK
	case sign == "close":
		m.names = m.names[:len(m.names)-1]
		return 0, api.OK
	case sign == "A" || sign == "B" || sign == "C":
		if next.Kind != scan.Name {
			return 0, api.ErrForm
		}
		m.note(map[string]int{"A": 0, "B": 1, "C": len(m.names) - 1}[sign], next.Text)
		return 1, api.OK
	case sign[0] == '\'':
		if next.Text != sign[1:] || next.Kind != scan.Name && next.Kind != scan.Sign {
			return 0, api.ErrForm
		}
		return 1, api.OK
	}
	if !m.expand(sign, next) {
		return 0, api.ErrForm
	}
	if n, err := strconv.Atoi(sign[1:]); err == nil && sign[0] == 'T' && n > 12 {
		return 0, api.ErrDeep
	}
	return 0, api.OK
}

// run tells the error, and at which word it stands (their count: the end).
func run(words []scan.Token, start string) (int, api.Errno) {
	m := machine{names: make([][]string, 2)}
	m.push(start)
	at := 0
	for len(m.stack) > 0 {
		var next scan.Token
		if at < len(words) {
			next = words[at]
		}
		n, e := m.step(next)
		if e != api.OK {
			return at, e
		}
		at += n
	}
	if at < len(words) {
		return at, api.ErrForm
	}
	if m.twice {
		return at, api.ErrIs
	}
	return at, api.OK
}

const (
	startType   = "T1"
	startSchema = "'data T1 '; rest"
)

// compare fails unless s is answered as the machine says; open: whether more words may make something of it.
func compare(t *testing.T, s, start string) (open bool) {
	t.Helper()
	words, want := scan.Tokens(s)
	at := -1
	if want == api.OK {
		at, want = run(words, start)
	}
	if start == startType {
		x, e := Type(s)
		if e != want || e == api.OK != (x.Kind != 0) || e == api.OK && !again(x) {
			t.Fatalf("%.200q: %+v, %v; want %v", s, x, e, want)
		}
	} else {
		x, e := Parse(s)
		if e != want || e == api.OK != (x.Main.Kind != 0) || e == api.OK && !schemaAgain(x) {
			t.Fatalf("%.200q: %+v, %v; want %v", s, x, e, want)
		}
	}
	return at == len(words)
}

// again tells whether a type that is written is read as the same, as far as a source may be so long. (P303)
func again(x api.Type) bool {
	s := TypeText(x)
	y, e := Type(s)
	return len(s) > api.MaxSource && e == api.ErrLong || e == api.OK && alike(x, y) && Same(x, y) && TypeText(y) == s
}

func schemaAgain(x api.Schema) bool {
	s := Text(x)
	y, e := Parse(s)
	return len(s) > api.MaxSource && e == api.ErrLong || e == api.OK && alikeSchemas(x, y) && Text(y) == s
}

// grow compares every row of so many of the words behind s, but what stands behind a word that is wrong already.
func grow(t *testing.T, s, start string, words []string, left int) {
	if !compare(t, s, start) || left == 0 {
		return
	}
	for _, w := range words {
		grow(t, s+w+" ", start, words, left-1)
	}
}

// P301, P303: every short source, held against the promise written otherwise; deep ones too.
func TestP301EveryShortType(t *testing.T) {
	words := strings.Fields(`Int List Union a b { } < > : , ; 5 "a"`)
	grow(t, "", startType, words, 8)
	for _, s := range []string{nest("List<", 10, "", ""), nest("{a:", 11, "", ""), nest("Union{a:", 10, "", ""), nest("Opt<{b:Int,a:", 5, "", ""), nest("List<", 12, "", "")} {
		grow(t, s, startType, words, 5)
	}
}

func TestP301EveryShortSchema(t *testing.T) {
	grow(t, "", startSchema, strings.Fields(`data type fn a Int List { } < > ; = ( ) -> , : 5 "a"`), 7)
	words := strings.Fields("type fn a b ; = ( ) -> , { }")
	for _, s := range []string{"data a; ", "data a; type a = b; ", "data a; fn a() -> b; ", "data a; fn b(b, "} {
		grow(t, s, startSchema, words, 7)
	}
}

// P301: longer rows of words, most of them wrong somewhere.
func TestP301ManySources(t *testing.T) {
	pieces := strings.Split("Int|Text|List<|Map<|Opt<Int>|Union{|Union|{|}|}|}|>|>|,|,|:|a:|b:|c:Int,|d:A,|A|{}|a:Int}|;|;|type|type B=|type C=Int;|fn|fn f(|)->|fn g(A,B)->Int;|fn h()->{};|data|(|)|->|=|\n|5|\"a\"|List<List<List<|Union{a:Opt<{b:|>}>}}|@", "|")
	r := row(4)
	for range 60000 {
		s, start := "", startType
		if r.below(2) == 0 {
			s, start = "data Int;", startSchema
		}
		for range r.below(14) {
			s += pieces[r.below(len(pieces))] + " "
		}
		compare(t, s, start)
	}
}

// maker makes types and schemas, and their words in an order and with blanks of its own.
type maker struct {
	r     row
	words []string
}

// put lays words down.
func (m *maker) put(words ...string) { m.words = append(m.words, words...) }

func (m *maker) name() string {
	all := strings.Fields("a b c d A B _ x1 X data type fn Bool Int Text List Map Opt Union abcdefghijklmnop")
	return all[m.r.below(len(all))]
}

// names are different ones.
func (m *maker) names(n int) []string {
	var l []string
	for range n {
		l = append(l, m.name())
	}
	slices.Sort(l)
	return slices.Compact(l)
}

// oneType makes a type of at most that depth, and lays down its words.
func (m *maker) oneType(depth int) api.Type {
	kind := 1 + m.r.below(9)
	if depth == 1 && kind >= api.TList && kind <= api.TOpt {
		kind = api.TInt
	}
	word := []string{"", "Bool", "Int", "Text", "List", "Map", "Opt", "", "Union", ""}[kind]
	switch kind {
	case api.TBool, api.TInt, api.TText:
		m.put(word)
		return api.Type{Kind: kind}
	case api.TList, api.TMap, api.TOpt:
		m.put(word, "<")
		kid := m.oneType(depth - 1)
		m.put(">")
		return of(kind, kid)
	case api.TName:
		word = m.name()
		if kindOf(word) != api.TName {
			word = "N"
		}
		m.put(word)
		return called(word)
	}
	m.put(word)
	return m.record(kind, depth)
}

func (m *maker) record(kind, depth int) api.Type {
	n := m.r.below(4)
	if depth == 1 {
		n = 0
	}
	x := api.Type{Kind: kind, Names: m.names(n)}
	x.Kids = make([]api.Type, len(x.Names))
	m.put("{")
	for i, at := range m.r.shuffled(len(x.Names)) {
		if i > 0 {
			m.put(",")
		}
		m.put(x.Names[at], ":")
		x.Kids[at] = m.oneType(depth - 1)
	}
	m.put("}")
	return x
}

func (m *maker) schema(depth int) api.Schema {
	var s api.Schema
	m.put("data")
	s.Main = m.oneType(depth)
	m.put(";")
	types, sigs := m.names(m.r.below(4)), m.names(m.r.below(4))
	s.Types = make([]api.Named, len(types))
	s.Sigs = make([]api.Sig, len(sigs))
	for _, at := range m.r.shuffled(len(types) + len(sigs)) {
		if at < len(types) {
			m.put("type", types[at], "=")
			s.Types[at] = api.Named{Name: types[at], T: m.oneType(depth)}
		} else {
			s.Sigs[at-len(types)] = m.function(sigs[at-len(types)], depth)
		}
		m.put(";")
	}
	return s
}

func (m *maker) function(name string, depth int) api.Sig {
	g := api.Sig{Name: name}
	m.put("fn", name, "(")
	for i := range m.r.below(4) {
		if i > 0 {
			m.put(",")
		}
		g.Params = append(g.Params, m.oneType(depth))
	}
	m.put(")", "->")
	g.Result = m.oneType(depth)
	return g
}

// source is the words that were laid down, with blanks; none are left.
func (m *maker) source() string {
	blanks := []string{" ", "", " ", "\n", "\t", " \r\n"}
	s := ""
	for i, w := range m.words {
		blank := blanks[m.r.below(len(blanks))]
		if blank == "" && i > 0 && scan.Ident(m.words[i-1]) && scan.Ident(w) {
			blank = " "
		}
		s += blank + w
	}
	m.words = nil
	return s
}

// P301, P302, P303: types and schemas that were made ahead of their sources.
func TestP301MadeTypes(t *testing.T) {
	m := maker{r: 5}
	deep := 0
	for i := range 6000 {
		x := m.oneType(1 + i%12)
		n := len(m.words)
		s := m.source()
		if n > api.MaxTokens || len(s) > api.MaxSource {
			continue
		}
		deep = max(deep, depthOf(x))
		wantType(t, s, x)
		if !again(x) {
			t.Errorf("%.80q: written %.80q", s, TypeText(x))
		}
	}
	if deep < 12 {
		t.Errorf("none is deeper than %d", deep)
	}
}

// spoil leaves a word out, lays one more down, or puts one in the place of another.
func (m *maker) spoil() {
	others := strings.Fields(`data type fn a A Int List Opt Union { } < > ( ) , : ; = -> := . 5 "a"`)
	at, other := m.r.below(len(m.words)), others[m.r.below(len(others))]
	switch m.r.below(4) {
	case 0:
		m.words = slices.Delete(m.words, at, at+1)
	case 1:
		m.words = slices.Insert(m.words, at, other)
	case 2:
		m.words[at] = other
	case 3:
		k := m.r.below(len(m.words))
		m.words[at], m.words[k] = m.words[k], m.words[at]
	}
}

// P301: what was right but for one word, or two.
func TestP301Spoiled(t *testing.T) {
	m := maker{r: 10}
	for i := range 12000 {
		start := startType
		if i%2 == 0 {
			m.oneType(1 + i%15)
		} else {
			start = startSchema
			m.schema(1 + i%4)
		}
		for range 1 + m.r.below(2) {
			if len(m.words) > 0 {
				m.spoil()
			}
		}
		compare(t, m.source(), start)
	}
}

func depthOf(x api.Type) int {
	n := 0
	for _, k := range x.Kids {
		n = max(n, depthOf(k))
	}
	return n + 1
}

func TestP301MadeSchemas(t *testing.T) {
	m := maker{r: 6}
	done := 0
	for i := range 4000 {
		x := m.schema(1 + i%6)
		n := len(m.words)
		s := m.source()
		if n > api.MaxTokens || len(s) > api.MaxSource {
			continue
		}
		done++
		wantSchema(t, s, x)
		if !schemaAgain(x) {
			t.Errorf("%.80q: written %.80q", s, Text(x))
		}
	}
	if done < 1000 {
		t.Errorf("only %d were short enough", done)
	}
}

// P302: the same just if written alike.
func TestP302MadePairs(t *testing.T) {
	m := maker{r: 7}
	var all []api.Type
	for range 300 {
		all = append(all, m.oneType(3))
	}
	for _, a := range all {
		for _, b := range all {
			if Same(a, b) != (TypeText(a) == TypeText(b)) || Same(a, b) != alike(a, b) {
				t.Fatalf("%s, %s: %v", TypeText(a), TypeText(b), Same(a, b))
			}
		}
	}
}
