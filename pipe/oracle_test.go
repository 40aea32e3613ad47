package pipe

import (
	"slices"
	"strconv"
	"strings"
	"testing"

	"sprue/api"
	"sprue/cons"
	"sprue/kinds"
	"sprue/sch"
)

// dice are numbers that look like any; the same ones each time.
type dice uint64

func (d *dice) below(n int) int {
	*d = *d*6364136223846793005 + 1442695040888963407
	return int(uint64(*d)>>33) % n
}

func pick[T any](d *dice, l []T) T { return l[d.below(len(l))] }

// claims say what a pipeline is by sources alone: words of a pipeline, types as they are written, in a table of their own that is asked for numbers and functions.
type claims struct {
	k     *cons.Table
	types map[string]string // of names
	dot   string
	vars  []claim
	// narrows by what they are of: `.a.b`, `$2.a`; the last one of each. (The dot: `.`.)
	narrows map[string]string
}

type claim struct{ name, kind string }

func claimed(s api.Schema, k *cons.Table, e Env) *claims {
	text := func(id int) string { return sch.TypeText(k.Type(id)) }
	c := &claims{k: k, types: map[string]string{}, dot: text(e.Dot), narrows: map[string]string{}}
	for _, n := range s.Types {
		c.types[n.Name] = sch.TypeText(n.T)
	}
	for _, v := range e.Vars {
		c.vars = append(c.vars, claim{v.Name, text(v.Type)})
	}
	for _, n := range e.Narrows {
		c.narrows[place(n.Var)+joined(n.Path)] = text(n.Type)
	}
	return c
}

func place(v int) string {
	if v == -1 {
		return ""
	}
	return "$" + strconv.Itoa(v)
}

func joined(path []string) string {
	s := ""
	for _, name := range path {
		s += "." + name
	}
	return s
}

// field is the type of a field of what is written so.
func (c *claims) field(kind, name string) (string, bool) {
	for c.types[kind] != "" {
		kind = c.types[kind]
	}
	x := typed(kind)
	i := slices.Index(x.Names, name)
	if x.Kind != api.TRec || i < 0 {
		return "", false
	}
	return sch.TypeText(x.Kids[i]), true
}

// path is what a path is, by its text: a narrow of all of it, else what the path without its last name has there.
func (c *claims) path(at, path string) (string, string) {
	if kind, ok := c.narrows[at+path]; ok {
		return kind, ""
	}
	i := strings.LastIndex(path, ".")
	if i < 0 && at == "" {
		return c.dot, ""
	}
	if i < 0 {
		v, _ := strconv.Atoi(at[1:])
		return c.vars[v].kind, ""
	}
	kind, e := c.path(at, path[:i])
	if e != "" {
		return "", e
	}
	kind, ok := c.field(kind, path[i+1:])
	if !ok {
		return "", "field"
	}
	return kind, ""
}

func (c *claims) operand(s string) (string, string) {
	switch {
	case s[0] == '(':
		return c.pipe(s[1 : len(s)-1])
	case s[0] == '"':
		return c.base("Text")
	case s == "true" || s == "false":
		return c.base("Bool")
	case s[0] == '-' || s[0] >= '0' && s[0] <= '9':
		return c.base("Int")
	case s == ".":
		return c.path("", "")
	case s[0] == '.':
		return c.path("", s)
	}
	name, path, ok := strings.Cut(s[1:], ".")
	if ok {
		path = "." + path
	}
	for i := len(c.vars) - 1; i >= 0; i-- {
		if c.vars[i].name == name {
			return c.path(place(i), path)
		}
	}
	return "", "name"
}

func (c *claims) base(kind string) (string, string) {
	if _, e := c.k.Add(typed(kind)); e != api.OK {
		return "", e.Error()
	}
	return kind, ""
}

// parts are those of a source that a sign stands between, brackets left whole. (No text has a bracket, a blank or a bar.)
func parts(s, sign string) []string {
	var l []string
	open, from := 0, 0
	for i := 0; i < len(s); i++ {
		switch {
		case s[i] == '(':
			open++
		case s[i] == ')':
			open--
		case open == 0 && strings.HasPrefix(s[i:], sign):
			l = append(l, s[from:i])
			from = i + len(sign)
		}
	}
	return append(l, s[from:])
}

func (c *claims) pipe(s string) (kind, e string) {
	for i, x := range parts(s, " | ") {
		l := parts(x, " ")
		head := l[0]
		if head == "true" || head == "false" || !strings.Contains("abcdefghijklmnopqrstuvwxyz", head[:1]) {
			if kind, e = c.operand(head); e != "" {
				return "", e
			}
			if i > 0 {
				return "", "args"
			}
			continue
		}
		var given []string
		for _, o := range l[1:] {
			x, e := c.operand(o)
			if e != "" {
				return "", e
			}
			given = append(given, x)
		}
		if i > 0 {
			given = append(given, kind)
		}
		if kind, e = c.call(head, given); e != "" {
			return "", e
		}
	}
	return kind, ""
}

func (c *claims) call(name string, given []string) (string, string) {
	var ids []int
	for _, x := range given {
		ids = append(ids, added(c.k, x))
	}
	id, e := kinds.Of(c.k, name, ids)
	if e != api.OK {
		return "", e.Error()
	}
	return sch.TypeText(c.k.Type(id)), ""
}

// bare is a schema like names, in which there is neither Bool nor Int nor Text.
const bare = "data {}; type L = List<R>; type M = Map<S>; type O = Opt<R>; type P = O; type R = {n: Opt<R>, s: S, v: {}}; type S = {b: {}, t: L}; type U = Union {s: S}; fn f(O) -> R; fn h() -> S;"

// maker makes Envs, and pipelines that are typed there more often than not.
type maker struct {
	d     dice
	k     *cons.Table
	types []string // those of Envs
	e     Env
}

// making is a maker with an Env of a table of its own.
func making(schema string, d int) *maker {
	types := "R S O R S O P U L M R S O {} List<R> Opt<S> Opt<R> Map<S> {n:S,v:{}} {s:Opt<S>,n:{s:S}}"
	if schema == names {
		types += " B I T Int Text Bool Map<Opt<Int>> Map<I> Opt<Int> Opt<Text> {a:R,s:Int}"
	}
	m := &maker{d: dice(d), k: tabled(schema), types: strings.Fields(types)}
	m.env()
	return m
}

func (m *maker) oneType() int { return added(m.k, pick(&m.d, m.types)) }

func (m *maker) path() []string {
	var l []string
	for range pick(&m.d, []int{0, 1, 1, 1, 2, 2, 3}) {
		l = append(l, pick(&m.d, strings.Fields("n s v b t a n s")))
	}
	return l
}

func (m *maker) env() {
	m.e = Env{Dot: m.oneType()}
	for range m.d.below(5) {
		m.e.Vars = append(m.e.Vars, Var{pick(&m.d, strings.Fields("x y z xx")), m.oneType()})
	}
	for range m.d.below(8) {
		m.e.Narrows = append(m.e.Narrows, Narrow{m.d.below(len(m.e.Vars)+1) - 1, m.path(), m.oneType()})
	}
}

// somePath is one, as it is written.
func (m *maker) somePath() string {
	p := joined(m.path())
	if len(m.e.Vars) > 0 && m.d.below(2) == 0 {
		return "$" + pick(&m.d, m.e.Vars).Name + p
	}
	if m.d.below(40) == 0 {
		return "$w" + p
	}
	return "." + strings.TrimPrefix(p, ".")
}

// like is a path that has such a type, opened; any, if none is found.
func (m *maker) like(kind int) string {
	s := m.somePath()
	for range 12 {
		id, e := Of(m.k, m.e, read(s))
		o, _ := m.k.Open(id)
		if n, _ := m.k.Node(o); e == api.OK && n.Kind == kind {
			break
		}
		s = m.somePath()
	}
	return s
}

// operand is one that may well be of that kind; deep: brackets that may be opened.
func (m *maker) operand(kind, deep int) string {
	if m.d.below(15) == 0 {
		kind = 1 + m.d.below(6)
	}
	if deep > 0 && m.d.below(3) == 0 {
		return "(" + m.pipe(kind, deep-1) + ")"
	}
	if m.d.below(2) == 0 {
		switch kind {
		case api.TInt:
			return pick(&m.d, []string{"0", "5", "-7"})
		case api.TText:
			return pick(&m.d, []string{`""`, `"a"`, `"5"`})
		case api.TBool:
			return pick(&m.d, []string{"true", "false"})
		}
	}
	return m.like(kind)
}

// does are functions: what they take, and what they answer. (A record stands for one of the schema.)
func does(kind int) [][]int {
	const b, i, t, l, m, o, r = api.TBool, api.TInt, api.TText, api.TList, api.TMap, api.TOpt, api.TRec
	switch kind {
	case b:
		return [][]int{{0, b}, {1, b, b}, {2, i, i}, {3, i, i}, {4, o}, {2, t, t}}
	case i:
		return [][]int{{5, t}, {5, l}, {5, m}, {6, i, i}, {7, i}}
	case t:
		return [][]int{{8, t, t}, {9, i}, {9, b}, {13, o, t}}
	case o:
		return [][]int{{10, m, t}}
	case r:
		return [][]int{{11, l, i}, {12, o}, {12, r}}
	case l:
		return [][]int{{14, i, t}}
	}
	return [][]int{{15}, {15, i}, {16, r}}
}

func (m *maker) pipe(kind, deep int) string {
	call := pick(&m.d, does(kind))
	if m.d.below(5) == 0 {
		return m.operand(kind, deep)
	}
	names := strings.Fields("not and eq lt has len add i8 cat text get at f orelse g h none")
	s := names[call[0]]
	takes := call[1:]
	ahead := len(takes) > 0 && m.d.below(3) == 0
	if ahead {
		takes = takes[:len(takes)-1]
	}
	for _, x := range takes {
		s += " " + m.operand(x, deep)
	}
	if m.d.below(25) == 0 {
		s += " " + m.operand(kind, 0)
	}
	if ahead {
		s = m.pipe(call[len(call)-1], deep) + " | " + s
	}
	if m.d.below(25) == 0 {
		s += " | " + m.operand(kind, 0)
	}
	return s
}

// same fails unless two tables have the same types.
func same(t *testing.T, s string, a, b *cons.Table) {
	t.Helper()
	if a.Len() != b.Len() {
		t.Fatalf("%s: %d types, not %d", s, a.Len(), b.Len())
	}
	for id := range a.Len() {
		if x, y := sch.TypeText(a.Type(id)), sch.TypeText(b.Type(id)); x != y {
			t.Fatalf("%s: type %d is %s, not %s", s, id, x, y)
		}
	}
}

// P901: made Envs and pipelines, full tables among them, are answered as the claims have it: types, errors, numbers, and what was made.
func TestP901MadePipelines(t *testing.T) {
	n := map[string]int{}
	for i := range 1600 {
		schema := []string{names, bare}[i%2]
		m, other := making(schema, i), making(schema, i)
		made := making(schema, i) // of a table of its own, so that the making asks neither of the two
		if room := m.d.below(12); room < 4 {
			fill(m.k, room)
			fill(other.k, room)
		}
		s, _ := sch.Parse(schema)
		c := claimed(s, other.k, other.e)
		for range 25 {
			x := made.pipe(1+made.d.below(7), made.d.below(4))
			want, wrong := c.pipe(x)
			got := told(m.k, m.e, read(x))
			if got != want+wrong {
				t.Fatalf("%+v: %s: %s, not %s%s", c, x, got, want, wrong)
			}
			same(t, x, m.k, other.k)
			n[wrong]++
			n["is "+want]++
		}
	}
	for _, x := range []string{"", "name", "field", "type", "args", "big", "is Int", "is Text", "is Bool", "is R", "is S", "is L", "is Opt<R>", "is O"} {
		if n[x] < 200 {
			t.Errorf("%q: only %d of %v", x, n[x], n)
		}
	}
}

// paths are all that are of few names, and at most three long.
func paths() [][]string {
	l := [][]string{nil}
	for i := 0; i < len(l); i++ {
		for _, name := range strings.Fields("n s v") {
			if len(l[i]) < 3 {
				l = append(l, append(slices.Clone(l[i]), name))
			}
		}
	}
	return l
}

// P901: every path, of every two narrows, of a variable and of the dot.
func TestP901EveryTwoNarrows(t *testing.T) {
	s, _ := sch.Parse(names)
	k := tabled(names)
	vars := []Var{{"x", added(k, "S")}, {"x", added(k, "R")}}
	whole := added(k, "R")
	l := paths()
	n := 0
	for i, first := range l {
		for j, second := range l {
			at := -1 + 2*((i+j)%2)
			e := Env{whole, vars, []Narrow{{at, first, added(k, "{n: S, s: R, v: S}")}, {at, second, added(k, "{n: R, s: S, v: T}")}}}
			c := claimed(s, k, e)
			for _, p := range l {
				x, y := "."+strings.TrimPrefix(joined(p), "."), "$x"+joined(p)
				for _, x := range []string{x, y} {
					want, wrong := c.operand(x)
					if got := told(k, e, read(x)); got != want+wrong {
						t.Fatalf("%+v: %s: %s, not %s%s", c, x, got, want, wrong)
					}
					if wrong == "" {
						n++
					}
				}
			}
		}
	}
	if n < 10000 {
		t.Errorf("only %d", n)
	}
}
