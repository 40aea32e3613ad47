package tree

import (
	"regexp"
	"slices"
	"strconv"
	"strings"
	"testing"

	"sprue/api"
	"sprue/scan"
	"sprue/text"
)

// row is a row of numbers that looks like none, and is the same in each run.
type row uint64

func (r *row) below(n int) int {
	*r = *r*6364136223846793005 + 1442695040888963407
	return int(uint64(*r)>>33) % n
}

func (r *row) one(l []string) string { return l[r.below(len(l))] }

// What follows is the promises once more, by other means: words as letters, rules as patterns of letters, blocks by descent.

const (
	blank = `[ \t\n\r]*`
	name  = `[A-Za-z_][A-Za-z0-9_]*`
)

var (
	aWord   = regexp.MustCompile(`^` + blank + `(?:(\$` + blank + name + `(?:\.` + name + `)*|(?:\.` + name + `)+|\.)|("(?:\\.|[^"\\])*")|(-?[0-9]+)|(` + name + `)|(->|:=|[{}<>,:()$|=;]))`)
	aVerb   = regexp.MustCompile(`^(if|with|range|match|else|end|case|template|define)$`)
	inside  = regexp.MustCompile(`\((O|NO*)(\|(O|NO*))*\)`)
	outside = regexp.MustCompile(`^(O|NO*)(\|(O|NO*))*$`)
	few     = regexp.MustCompile(`^N?O{0,4}$`)
)

// piece is a word, or a path; letter: O an operand, N a function's name, ( ) |, or X: none.
type piece struct {
	letter byte
	s      string
}

// pieces takes a source whose words are right to its pieces.
func pieces(s string) []piece {
	var l []piece
	for {
		m := aWord.FindStringSubmatch(s)
		if m == nil {
			return l
		}
		s = s[len(m[0]):]
		switch {
		case m[1] != "" || m[2] != "" || m[3] != "" || m[4] == "true" || m[4] == "false":
			l = append(l, piece{'O', m[1] + m[2] + m[3] + m[4]})
		case m[4] != "" && !aVerb.MatchString(m[4]):
			l = append(l, piece{'N', m[4]})
		case m[5] == "(" || m[5] == ")" || m[5] == "|":
			l = append(l, piece{m[5][0], m[5]})
		case m[5] == "$": // a path begins, but does not go on
			l = append(l, piece{'O', "$"}, piece{'X', ""})
		default:
			l = append(l, piece{'X', m[4] + m[5]})
		}
	}
}

// reduced is letters whose brackets are operands, from the innermost on; most: no function is given more than four.
func reduced(letters string, most bool) (string, bool) {
	few := !most || fewIn(letters)
	for inside.MatchString(letters) {
		letters = inside.ReplaceAllString(letters, "O")
		few = few && (!most || fewIn(letters))
	}
	return letters, few
}

// fewIn tells whether no row of operands behind a name is too long.
func fewIn(letters string) bool {
	for _, c := range strings.FieldsFunc(letters, func(r rune) bool { return r == '|' || r == '(' || r == ')' }) {
		if c[0] == 'N' && !few.MatchString(c) {
			return false
		}
	}
	return true
}

// right tells whether letters are a pipeline.
func right(letters string, most bool) bool {
	l, few := reduced(letters, most)
	return few && outside.MatchString(l)
}

// goesOn tells whether letters are a pipeline's front.
func goesOn(letters string, most bool) bool {
	shut := strings.Repeat(")", max(0, strings.Count(letters, "(")-strings.Count(letters, ")")))
	return right(letters+shut, most) || right(letters+"N"+shut, most)
}

// pipeError is the error of a pipeline's pieces, and how many of them are read ahead of it.
func pipeError(l []piece) (int, api.Errno) {
	letters := ""
	for i, p := range l {
		letters += string(p.letter)
		switch {
		case !goesOn(letters, false):
			return i, api.ErrForm
		case !goesOn(letters, true):
			return i, api.ErrArgs
		case strings.Count(letters, "(")-strings.Count(letters, ")") > 12:
			return i, api.ErrDeep
		}
	}
	if !right(letters, true) {
		return len(l), api.ErrForm
	}
	return len(l), api.OK
}

// pipeOf is the commands of pieces that are right.
func pipeOf(l []piece) []api.Command {
	var p []api.Command
	var c api.Command
	for i := 0; i < len(l); i++ {
		switch l[i].letter {
		case '|':
			p = append(p, c)
			c = api.Command{}
		case '(':
			from := i + 1
			for open := 1; open > 0; {
				i++
				open += map[byte]int{'(': 1, ')': -1}[l[i].letter]
			}
			c.Ops = append(c.Ops, in(pipeOf(l[from:i])...))
		case 'N':
			c.Ops = append(c.Ops, fn(l[i].s))
		default:
			c.Ops = append(c.Ops, operandOf(l[i].s))
		}
	}
	return append(p, c)
}

// operandOf is an operand as it is written.
func operandOf(s string) api.Operand {
	switch s[0] {
	case '.':
		return dot(strings.ReplaceAll(s, ".", " "))
	case '$':
		variable, fields, _ := strings.Cut(s[1:], ".")
		return of(strings.TrimSpace(variable), strings.ReplaceAll(fields, ".", " "))
	case '"':
		return txt(strings.NewReplacer(`\\`, `\`, `\"`, `"`, `\n`, "\n", `\t`, "\t").Replace(s[1 : len(s)-1]))
	case 't', 'f':
		return yes(s == "true")
	}
	n, _ := strconv.ParseInt(s, 10, 64)
	return num(n)
}

// comparePipe fails unless s is answered as the patterns say; open: whether more words may make something of it.
func comparePipe(t *testing.T, s string) (open bool) {
	t.Helper()
	got, e := Pipe(s)
	if _, want := scan.Tokens(s); want != api.OK {
		if e != want || len(got) > 0 {
			t.Fatalf("%.200q: %+v, %v; want %v", s, got, e, want)
		}
		return false
	}
	l := pieces(s)
	at, want := pipeError(l)
	if e != want || e != api.OK && len(got) > 0 {
		t.Fatalf("%.200q: %+v, %v; want %v", s, got, e, want)
	}
	if e == api.OK && (!alike(got, pipeOf(l)) || !pipeAgain(got)) {
		t.Fatalf("%.200q: %+v; want %+v", s, got, pipeOf(l))
	}
	return at == len(l) || len(l) > 1 && l[len(l)-1] == piece{'X', ""}
}

// pipeAgain tells whether a pipeline that is written is read as the same, as far as the bounds of a source allow it. (P703)
func pipeAgain(p []api.Command) bool {
	s := PipeText(p)
	q, e := Pipe(s)
	if e == api.ErrLong {
		return len(s) > api.MaxSource
	}
	return e == api.OK && alike(p, q) && SamePipe(p, q) && PipeText(q) == s
}

// grow calls compare with every row of so many of the pieces behind s, but not behind what is wrong already.
func grow(t *testing.T, s string, more []string, left int, compare func(*testing.T, string) bool) {
	if !compare(t, s) || left == 0 {
		return
	}
	for _, m := range more {
		grow(t, s+m, more, left-1, compare)
	}
}

// P701, P703: every short pipeline, held against the promise written otherwise; some as deep, and with as many operands, as may be.
func TestP701EveryShortPipe(t *testing.T) {
	parts := []string{".", " ", "a", "$", "(", ")", "|", "5", "true", "if", ":="}
	grow(t, "", parts, 6, comparePipe)
	grow(t, "f ", []string{".", " ", "a", "$", "\n"}, 6, comparePipe)
	grow(t, "f 1 (g 2 3 4 ", []string{" .", "a", " $x", "(", ")", "|", " 5", " f", ","}, 4, comparePipe)
	grow(t, strings.Repeat("(", 11)+"f 1 2 3", []string{"(", ")", "|", " 5", " f"}, 5, comparePipe)
}

// maker makes trees, and their sources, with blanks of its own.
type maker struct {
	row
}

// pad is words with blanks between, where there must be some, and where there may be.
func (m *maker) pad(words ...string) string {
	s := ""
	for _, w := range words {
		if w == "" {
			continue
		}
		must := s != "" && (w[0] == '.' || wordly(w[0]) && (wordly(s[len(s)-1]) || s[len(s)-1] == '.'))
		if must || m.below(3) == 0 {
			s += m.one([]string{" ", "\n", "\t ", " \r"})
		}
		s += w
	}
	return s
}

func wordly(c byte) bool { return c == '_' || '0' <= c && c <= '9' || 'a' <= c|32 && c|32 <= 'z' }

func (m *maker) name() string {
	return m.one(strings.Fields("a b c x1 _ if end define true abcdefghijklmnop"))
}

// operand makes one whose brackets are at most so many deep.
func (m *maker) operand(deep int) (api.Operand, string) {
	switch kind := m.below(6); {
	case kind == 0:
		s := m.one([]string{"", "a", "\\", "\"", "\n\t", "a b", "}}", "{{", "\\n", "\xff\x7f", "é", "$x", "("})
		return txt(s), `"` + strings.NewReplacer(`\`, `\\`, `"`, `\"`, "\n", `\n`, "\t", `\t`).Replace(s) + `"`
	case kind == 1:
		n := []int64{0, 5, -5, 1<<63 - 1, -1 << 63}[m.below(5)]
		return num(n), strconv.FormatInt(n, 10)
	case kind == 2:
		b := m.below(2) == 0
		return yes(b), strconv.FormatBool(b)
	case kind == 3 && deep > 0:
		p, s := m.pipe(deep - 1)
		return in(p...), m.pad("(", s, ")")
	}
	o, s := dot(""), ""
	for range m.below(4) {
		o.Path = append(o.Path, m.name())
		s += "." + o.Path[len(o.Path)-1]
	}
	switch {
	case m.below(2) == 0:
		o.Var = m.name()
		s = m.one([]string{"$", "$", "$ "}) + o.Var + s
	case s == "":
		s = "."
	}
	return o, s
}

func (m *maker) pipe(deep int) ([]api.Command, string) {
	var p []api.Command
	var words []string
	for i := range 1 + m.below(2) + m.below(2) {
		if i > 0 {
			words = append(words, "|")
		}
		c, s := m.command(deep)
		p = append(p, c)
		words = append(words, s)
	}
	return p, m.pad(words...)
}

func (m *maker) command(deep int) (api.Command, string) {
	if m.below(2) == 0 {
		o, s := m.operand(deep)
		return cmd(o), s
	}
	name := m.one(strings.Fields("f g len iff True abcdefghijklmnop _"))
	c, words := cmd(fn(name)), []string{name}
	for range m.below(5) {
		o, s := m.operand(deep)
		c.Ops = append(c.Ops, o)
		words = append(words, s)
	}
	return c, m.pad(words...)
}

// bracketsOf is how deep the brackets of a pipeline go.
func bracketsOf(p []api.Command) int {
	n := 0
	for _, c := range p {
		for _, o := range c.Ops {
			if o.Kind == api.OPipe {
				n = max(n, 1+bracketsOf(o.Pipe))
			}
		}
	}
	return n
}

// P701, P703: pipelines that were made ahead of their sources.
func TestP701MadePipes(t *testing.T) {
	m := maker{1}
	done, deepest := 0, 0
	for i := range 6000 {
		p, s := m.pipe(i % 13)
		if _, e := scan.Tokens(s); e != api.OK {
			continue
		}
		done++
		deepest = max(deepest, bracketsOf(p))
		got, e := Pipe(s)
		if e != api.OK || !alike(got, p) || !SamePipe(got, p) || !pipeAgain(p) {
			t.Fatalf("%q: %+v, %v; want %+v", s, got, e, p)
		}
	}
	if done < 3000 || deepest < 4 {
		t.Errorf("only %d were short enough, and none is deeper than %d", done, deepest)
	}
}

// spoil leaves a piece of s out, lays one more down, or puts one in the place of another.
func (m *maker) spoil(s string, cut *regexp.Regexp, others []string) string {
	l := cut.FindAllString(s, -1)
	if len(l) == 0 {
		return m.one(others)
	}
	at := m.below(len(l))
	switch m.below(4) {
	case 0:
		l = slices.Delete(l, at, at+1)
	case 1:
		l = slices.Insert(l, at, m.one(others))
	case 2:
		l[at] = m.one(others)
	case 3:
		k := m.below(len(l))
		l[at], l[k] = l[k], l[at]
	}
	return strings.Join(l, "")
}

// P701: what was right but for a word, or two.
func TestP701Spoiled(t *testing.T) {
	m := maker{2}
	cut := regexp.MustCompile(`"(?:\\.|[^"\\])*"|\w+|(?s:.)`)
	others := []string{" ", ".", "$", "(", ")", "|", " 5", " if ", " f ", "=", ":=", "\"a\"", ".a", " true ", "((((((((((((", " 1 2 3 4", "@"}
	for i := range 8000 {
		_, s := m.pipe(i % 5)
		for range 1 + m.below(3) {
			s = m.spoil(s, cut, others)
		}
		if len(s) < 150 {
			comparePipe(t, s)
		}
	}
}

var (
	setsOne  = regexp.MustCompile(`(?s)^` + blank + `\$` + blank + `(` + name + `)` + blank + `(:=|=)(.*)$`)
	opensOne = regexp.MustCompile(`(?s)^` + blank + `(if|with|range|match)\b(.*)$`)
	marksOne = regexp.MustCompile(`^` + blank + `(else|end|case\b` + blank + name + `)` + blank + `$`)
	definesA = regexp.MustCompile(`^` + blank + `define` + blank + `("(?:\\.|[^"\\])*")` + blank + `$`)
	callsOne = regexp.MustCompile(`(?s)^` + blank + `template` + blank + `("(?:\\.|[^"\\])*")(.*)$`)
	verbOnly = regexp.MustCompile(`^` + blank + `(if|with|range|match|else|end|case|template|define)\b`)
)

// actionByPatterns is an action's verb ("" a node), and what there is of its node.
func actionByPatterns(s string) (verb string, n api.Node, e api.Errno) {
	if _, e := scan.Tokens(s); e != api.OK {
		return "", n, e
	}
	rest := s
	if m := setsOne.FindStringSubmatch(s); m != nil {
		n.Kind, n.Name, rest = map[string]int{":=": api.NVar, "=": api.NSet}[m[2]], m[1], m[3]
	} else if m := opensOne.FindStringSubmatch(s); m != nil {
		verb, rest = m[1], m[2]
		n.Kind = map[string]int{"if": api.NIf, "with": api.NWith, "range": api.NRange, "match": api.NMatch}[verb]
	} else if m := marksOne.FindStringSubmatch(s); m != nil {
		l := strings.Fields(m[1])
		n.Name = strings.Join(l[1:], "")
		return l[0], n, api.OK
	} else if m := definesA.FindStringSubmatch(s); m != nil {
		n.Name = operandOf(m[1]).S
		return "define", n, api.OK
	} else if m := callsOne.FindStringSubmatch(s); m != nil {
		n.Kind, n.Name, rest = api.NCall, operandOf(m[1]).S, m[2]
		if strings.TrimSpace(rest) == "" {
			return "", n, api.OK
		}
	} else if verbOnly.MatchString(s) {
		return "", n, api.ErrForm
	} else {
		n.Kind = api.NPrint
	}
	l := pieces(rest)
	if _, e = pipeError(l); e != api.OK {
		return "", n, e
	}
	n.Pipe = pipeOf(l)
	return verb, n, api.OK
}

// descent reads parts block by block; what is wrong it throws.
type descent struct {
	parts   []text.Part
	size    int
	defined []api.Template
}

type fault struct {
	at int
	e  api.Errno
}

// action takes the next part, which is one.
func (d *descent) action() (verb string, n api.Node) {
	p := d.parts[0]
	verb, n, e := actionByPatterns(p.S)
	if e != api.OK {
		panic(fault{p.At, e})
	}
	d.parts = d.parts[1:]
	n.At = p.At
	return verb, n
}

// nodes reads up to an action that ends them (none: the end), and tells which.
func (d *descent) nodes(open int, ends ...string) ([]api.Node, string, string) {
	var l []api.Node
	for len(d.parts) > 0 {
		if p := d.parts[0]; !p.Action {
			d.parts = d.parts[1:]
			l = append(l, api.Node{Kind: api.NText, At: p.At, S: p.S})
			continue
		}
		verb, n := d.action()
		switch {
		case slices.Contains(ends, verb):
			return l, verb, n.Name
		case verb == "end" || verb == "else" || verb == "case" || verb == "define" && len(ends) > 0:
			panic(fault{n.At, api.ErrForm})
		case verb == "define":
			d.define(n)
		case verb != "" && open == 12:
			panic(fault{n.At, api.ErrDeep})
		case verb == "match":
			l = append(l, d.match(n, open+1))
		case verb != "":
			l = append(l, d.branch(n, open+1))
		case n.Kind == api.NCall && !scan.Ident(n.Name):
			panic(fault{n.At, api.ErrName})
		default:
			l = append(l, n)
		}
	}
	if len(ends) > 0 {
		panic(fault{d.size, api.ErrForm})
	}
	return l, "", ""
}

func (d *descent) define(n api.Node) {
	for _, other := range d.defined {
		if other.Name == n.Name {
			panic(fault{n.At, api.ErrIs})
		}
	}
	if !scan.Ident(n.Name) {
		panic(fault{n.At, api.ErrName})
	}
	if len(d.defined) == 12 {
		panic(fault{n.At, api.ErrMany})
	}
	body, _, _ := d.nodes(1, "end")
	d.defined = append(d.defined, api.Template{Name: n.Name, Body: body})
}

func (d *descent) branch(n api.Node, open int) api.Node {
	body, verb, _ := d.nodes(open, "end", "else")
	n.Body = body
	return d.other(n, open, verb)
}

// other reads what stands behind an else.
func (d *descent) other(n api.Node, open int, verb string) api.Node {
	if verb == "else" {
		n.HasElse = true
		n.Else, _, _ = d.nodes(open, "end")
	}
	return n
}

func (d *descent) match(n api.Node, open int) api.Node {
	for len(d.parts) > 0 && !d.parts[0].Action {
		if strings.Trim(d.parts[0].S, " \t\n\r") != "" {
			panic(fault{d.parts[0].At, api.ErrForm})
		}
		d.parts = d.parts[1:]
	}
	if len(d.parts) == 0 {
		panic(fault{d.size, api.ErrForm})
	}
	verb, first := d.action()
	if verb != "case" && verb != "else" && verb != "end" {
		panic(fault{first.At, api.ErrForm})
	}
	for tag := first.Name; verb == "case"; {
		c := api.Case{Tag: tag}
		c.Body, verb, tag = d.nodes(open, "case", "else", "end")
		n.Cases = append(n.Cases, c)
	}
	return d.other(n, open, verb)
}

// parseByDescent is what Parse promises.
func parseByDescent(s string) (l []api.Template, f fault) {
	parts, e := text.Split(s)
	if e != api.OK {
		return nil, fault{0, e}
	}
	defer func() {
		if x := recover(); x != nil {
			l, f = nil, x.(fault)
		}
	}()
	d := descent{parts: parts, size: len(s)}
	body, _, _ := d.nodes(0)
	return append([]api.Template{{Body: body}}, d.defined...), f
}

// compareTemplates fails unless s is answered as the descent says; open: whether more parts may make something of it.
func compareTemplates(t *testing.T, s string) (open bool) {
	t.Helper()
	want, f := parseByDescent(s)
	got, at, e := Parse(s)
	if e != f.e || at != f.at || !alike(got, want) || !Same(got, want) {
		t.Fatalf("%.200q: %+v, %d, %v; want %+v, %+v", s, got, at, e, want, f)
	}
	return e == api.OK || at == len(s)
}

// P702: every short row of parts, held against the promise written otherwise; some as deep, and with as many definitions, as may be.
func TestP702EveryShortTemplate(t *testing.T) {
	parts := []string{"{{if .}}", "{{else}}", "{{end}}", "{{match .}}", "{{case a}}", "{{define \"a\"}}", "{{define \"b\"}}", "x", " ", "{{.}}", "{{template \"5\"}}", "{{)}}"}
	grow(t, "", parts, 5, compareTemplates)
	grow(t, "{{match .}}", parts[:6], 6, compareTemplates)
	grow(t, strings.Repeat("{{if .}}{{else}}", 11), []string{"{{with .}}", "{{else}}", "{{end}}", "{{match .}}", "{{case a}}", "{{define \"a\"}}"}, 5, compareTemplates)
	defined := ""
	for i := range 11 {
		defined += "{{define \"t" + strconv.Itoa(i) + "\"}}{{end}}"
	}
	grow(t, defined, []string{"{{define \"a\"}}", "{{define \"t5\"}}", "{{define \"b\"}}", "{{end}}", "{{define \"5\"}}", "{{if .}}"}, 6, compareTemplates)
}

// P701, P702: every short action, held against the patterns.
func TestP702EveryShortAction(t *testing.T) {
	parts := []string{"$", "x", " ", ":=", "=", ".", "5", "\"a\"", "if", "else", "case", "template", "define", "true", "("}
	compare := func(t *testing.T, s string) bool {
		compareTemplates(t, "{{"+s+"}}")
		compareTemplates(t, "{{match .}}{{case b}}{{"+s+"}}{{end}}{{end}}")
		_, _, e := actionByPatterns(s)
		return e == api.OK || e == api.ErrForm
	}
	grow(t, "", parts, 4, compare)
	for _, s := range []string{"$x", "$ x :=", "$x = ", "if ", "template \"a\" ", "case "} {
		grow(t, s, parts, 3, compare)
	}
}

// nodes makes a row of nodes, and lays down their source; where they stand is told by how much there is already.
func (m *maker) nodes(b *strings.Builder, open int) []api.Node {
	var l []api.Node
	for range m.below(4) {
		n := api.Node{Kind: 1 + m.below(9), At: b.Len()}
		if n.Kind >= api.NIf && n.Kind <= api.NMatch && open == 12 {
			n.Kind = api.NPrint
		}
		switch n.Kind {
		case api.NText:
			if len(l) > 0 && l[len(l)-1].Kind == api.NText {
				continue
			}
			n.S = m.one([]string{" ", "x", "}}", "{.", "\"", "{ { ", "\n", "\x00\xff"})
			b.WriteString(n.S)
		case api.NIf, api.NWith, api.NRange, api.NMatch:
			m.block(b, &n, open+1)
		default:
			m.simple(b, &n)
		}
		l = append(l, n)
	}
	return l
}

func (m *maker) braces(b *strings.Builder, words ...string) {
	b.WriteString("{{" + m.pad(words...) + m.one([]string{"", " ", "\n"}) + "}}")
}

// simple makes a node without a body.
func (m *maker) simple(b *strings.Builder, n *api.Node) {
	p, s := m.pipe(m.below(3))
	n.Pipe = p
	switch n.Kind {
	case api.NPrint:
		m.braces(b, s)
	case api.NVar, api.NSet:
		n.Name = m.name()
		m.braces(b, "$", n.Name, map[int]string{api.NVar: ":=", api.NSet: "="}[n.Kind], s)
	case api.NCall:
		n.Name = m.name()
		if m.below(2) == 0 {
			n.Pipe, s = nil, ""
		}
		m.braces(b, "template", `"`+n.Name+`"`, s)
	}
}

// block makes a node with one.
func (m *maker) block(b *strings.Builder, n *api.Node, open int) {
	p, s := m.pipe(m.below(2))
	n.Pipe = p
	m.braces(b, map[int]string{api.NIf: "if", api.NWith: "with", api.NRange: "range", api.NMatch: "match"}[n.Kind], s)
	if n.Kind != api.NMatch {
		n.Body = m.nodes(b, open)
	} else {
		b.WriteString(m.one([]string{"", " ", "\n\t", "\r"}))
		for range m.below(3) {
			c := api.Case{Tag: m.name()}
			m.braces(b, "case", c.Tag)
			c.Body = m.nodes(b, open)
			n.Cases = append(n.Cases, c)
		}
	}
	if m.below(2) == 0 {
		n.HasElse = true
		m.braces(b, "else")
		n.Else = m.nodes(b, open)
	}
	m.braces(b, "end")
}

// templates makes the whole and some that it defines, and their source.
func (m *maker) templates() ([]api.Template, string) {
	var b strings.Builder
	l := []api.Template{{}}
	for i := range 1 + m.below(4) {
		if i > 0 {
			t := api.Template{Name: "t" + strconv.Itoa(9-i)}
			m.braces(&b, "define", `"`+t.Name+`"`)
			t.Body = m.nodes(&b, 1)
			m.braces(&b, "end")
			l = append(l, t)
		}
		l[0].Body = append(l[0].Body, m.nodes(&b, 0)...)
	}
	return l, b.String()
}

// P702, P703: templates that were made ahead of their sources, and these spoiled.
func TestP702MadeTemplates(t *testing.T) {
	m := maker{3}
	cut := regexp.MustCompile(`(?s)\{\{(?:"(?:\\.|[^"\\])*"|[^"])*?\}\}|.`)
	others := []string{"{{if .}}", "{{else}}", "{{end}}", "{{match .}}", "{{case a}}", "{{define \"a\"}}", "{{template \"a\" 1 2}}", "{{template \"\"}}", "x", "{{", "}}", "{{@}}", "{{$x := f 1 2 3 4 5}}", "{{range .}}"}
	done := 0
	for range 2500 {
		l, s := m.templates()
		if _, e := text.Split(s); e != api.OK {
			continue
		}
		done++
		got, at, e := Parse(s)
		if e != api.OK || at != 0 || !alike(got, l) || !Same(got, l) || !Same(l, moved(l)) {
			t.Fatalf("%q: %+v, %d, %v; want %+v", s, got, at, e, l)
		}
		for range 1 + m.below(2) {
			s = m.spoil(s, cut, others)
		}
		if len(s) < 400 {
			compareTemplates(t, s)
		}
	}
	if done < 1000 {
		t.Errorf("only %d were short enough", done)
	}
}
