package shape

import (
	"regexp"
	"slices"
	"strings"
	"testing"

	"sprue/api"
	"sprue/sch"
)

// row is a row of numbers that look like any; the same ones each time.
type row uint64

func (r *row) below(n int) int {
	*r = *r*6364136223846793005 + 1442695040888963407
	return int(uint64(*r)>>33) % n
}

func pick[T any](r *row, l []T) T { return l[r.below(len(l))] }

var (
	aName  = regexp.MustCompile(`^[A-Za-z_][A-Za-z0-9_]{0,15}$`)
	aWord  = regexp.MustCompile(`^(Bool|Int|Text|List|Map|Opt|Union)$`)
	aThere = regexp.MustCompile(`^(` + strings.ReplaceAll(builtins, " ", "|") + `)$`)
)

// claims are the promise once more, by other means: all that may be wrong, in one flat row, in the order in which it is named.
type claims struct {
	s     api.Schema
	first api.Errno // of the first that is so
	gone  []api.Type
}

func (c *claims) claim(e api.Errno, so bool) {
	if c.first == api.OK && so {
		c.first = e
	}
}

func (c *claims) names(l []string, except *regexp.Regexp) {
	for i, n := range l {
		c.claim(api.ErrName, !aName.MatchString(n) || except != nil && except.MatchString(n))
		c.claim(api.ErrIs, i > 0 && strings.Compare(l[i-1], n) >= 0)
	}
}

// within is a type, and how deep it stands.
type within struct {
	t    api.Type
	deep int
}

// mayBe goes through a type by a stack of what is to come.
func (c *claims) mayBe(t api.Type) {
	for todo := []within{{t, 1}}; len(todo) > 0 && c.first == api.OK; {
		x := todo[len(todo)-1]
		todo = todo[:len(todo)-1]
		c.node(x.t, x.deep)
		for i := len(x.t.Kids) - 1; i >= 0; i-- {
			todo = append(todo, within{x.t.Kids[i], x.deep + 1})
		}
	}
}

// parts are a kind's: how many kids (-1: as many as names), whether it has a name, and names.
var parts = map[int][3]int{1: {0, 0, 0}, 2: {0, 0, 0}, 3: {0, 0, 0}, 4: {1, 0, 0}, 5: {1, 0, 0}, 6: {1, 0, 0}, 7: {-1, 0, 1}, 8: {-1, 0, 1}, 9: {0, 1, 0}}

func (c *claims) node(t api.Type, deep int) {
	c.gone = append(c.gone, t)
	c.claim(api.ErrMany, len(c.gone) == 401)
	c.claim(api.ErrDeep, deep == 13)
	p, ok := parts[t.Kind]
	c.claim(api.ErrArg, !ok)
	c.claim(api.ErrForm, p[0] >= 0 && len(t.Kids) != p[0] || p[0] < 0 && len(t.Kids) != len(t.Names))
	c.claim(api.ErrForm, p[1] == 0 && t.Name != "" || p[2] == 0 && len(t.Names) != 0)
	c.claim(api.ErrName, p[1] == 1 && place(c.s, t.Name) < 0)
	c.claim(api.ErrMany, len(t.Names) >= 9)
	c.names(t.Names, nil)
	c.claim(api.ErrForm, t.Kind == api.TUnion && len(t.Names) == 0)
}

// place is a named type's among them; -1: there is none.
func place(s api.Schema, name string) int {
	return slices.IndexFunc(s.Types, func(n api.Named) bool { return n.Name == name })
}

func (c *claims) all() {
	c.claim(api.ErrMany, len(c.s.Types) >= 13)
	c.claim(api.ErrMany, len(c.s.Sigs) >= 13)
	var names []string
	for _, n := range c.s.Types {
		names = append(names, n.Name)
	}
	c.names(names, aWord)
	for _, n := range c.s.Types {
		c.mayBe(n.T)
	}
	c.mayBe(c.s.Main)
	for i, g := range c.s.Sigs {
		two := []string{g.Name}
		if i > 0 {
			two = []string{c.s.Sigs[i-1].Name, g.Name}
		}
		c.names(two, aThere)
		c.claim(api.ErrArgs, len(g.Params) >= 5)
		for _, p := range g.Params {
			c.mayBe(p)
		}
		c.mayBe(g.Result)
	}
	if c.first == api.OK {
		c.claim(api.ErrLoop, least(c.s) != 1<<len(c.s.Types)-1)
	}
	if c.first == api.OK {
		c.claim(api.ErrType, slices.ContainsFunc(c.gone, c.optOfOpt))
	}
}

func (c *claims) optOfOpt(t api.Type) bool {
	if t.Kind != api.TOpt {
		return false
	}
	kid := t.Kids[0]
	for range 13 {
		if at := place(c.s, kid.Name); at >= 0 {
			kid = c.s.Types[at].T
		}
	}
	return kid.Kind == api.TOpt
}

// verdict is what the claims say of a schema.
func verdict(s api.Schema) api.Errno {
	c := claims{s: s}
	c.all()
	return c.first
}

// least is, as bits, the names that are in each row of names that is closed.
func least(s api.Schema) int {
	all := 1<<len(s.Types) - 1
	common := all
	for names := 0; names <= all; names++ {
		if closed(s, names) {
			common &= names
		}
	}
	return common
}

// closed tells whether the names have in them each one that has a value by them.
func closed(s api.Schema, names int) bool {
	for i, n := range s.Types {
		if names>>i&1 == 0 && has(s, n.T, names) {
			return false
		}
	}
	return true
}

// has tells whether a type has a value, if the names have.
func has(s api.Schema, t api.Type, names int) bool {
	endless := 0
	for _, k := range t.Kids {
		if !has(s, k, names) {
			endless++
		}
	}
	switch t.Kind {
	case api.TRec:
		return endless == 0
	case api.TUnion:
		return endless < len(t.Kids)
	case api.TName:
		return names>>place(s, t.Name)&1 == 1
	}
	return true
}

// compare holds a schema against the claims, and tells what they say.
func compare(t *testing.T, s api.Schema) api.Errno {
	t.Helper()
	want := verdict(s)
	if e := Check(s); e != want {
		t.Fatalf("%+v: %v, not %v", s, e, want)
	}
	return want
}

// compareFinite holds what is said of types against the claims, in a schema that they allow but, perhaps, for loops or Opts.
func compareFinite(t *testing.T, s api.Schema, l []api.Type) {
	t.Helper()
	names := least(s)
	for _, x := range l {
		if want := has(s, x, names); Finite(s, x) != want {
			t.Fatalf("%q: %q: %v", sch.Text(s), sch.TypeText(x), !want)
		}
	}
}

// grown are types with one more around them, or two of them.
func grown(l []api.Type) []api.Type {
	var more []api.Type
	for _, x := range l {
		for _, kind := range []int{api.TList, api.TMap, api.TOpt} {
			more = append(more, of(kind, x))
		}
		more = append(more, fields(api.TRec, "a", x), fields(api.TUnion, "a", x))
	}
	return more
}

func pairs(l []api.Type) []api.Type {
	var more []api.Type
	for _, x := range l {
		for _, y := range l {
			more = append(more, fields(api.TRec, "a b", x, y), fields(api.TUnion, "a b", x, y))
		}
	}
	return more
}

func calledAll(names string) []api.Type {
	l := []api.Type{tInt, fields(api.TRec, "")}
	for _, n := range strings.Fields(names) {
		l = append(l, called(n))
	}
	return l
}

// P402, P403: every schema of two short named types.
func TestP402EveryTwoTypes(t *testing.T) {
	single := calledAll("A B")
	one := append(grown(single), single...)
	all := append(append(grown(grown(single)), one...), pairs(single)...)
	told := map[api.Errno]int{}
	for _, x := range all {
		for _, y := range all {
			s := api.Schema{Main: called("A"), Types: []api.Named{{Name: "A", T: x}, {Name: "B", T: y}}}
			told[compare(t, s)]++
			compareFinite(t, s, one)
		}
	}
	if len(told) != 3 || told[api.OK] < 1000 || told[api.ErrLoop] < 1000 || told[api.ErrType] < 1000 {
		t.Errorf("told: %v", told)
	}
}

// P402, P403: every schema of three named types, of at most two names or Ints each.
func TestP402EveryThreeTypes(t *testing.T) {
	single := []api.Type{tInt, called("A"), called("B"), called("C")}
	all := append(pairs(single), append(single, of(api.TOpt, called("A")), of(api.TOpt, called("B")))...)
	told := map[api.Errno]int{}
	for _, x := range all {
		for _, y := range all {
			for _, z := range all {
				s := api.Schema{Main: tInt, Types: []api.Named{{Name: "A", T: x}, {Name: "B", T: y}, {Name: "C", T: z}}}
				told[compare(t, s)]++
				compareFinite(t, s, single)
			}
		}
	}
	if len(told) != 3 || told[api.OK] < 1000 || told[api.ErrLoop] < 1000 || told[api.ErrType] < 100 {
		t.Errorf("told: %v", told)
	}
}

// P402: every type of parts that may fit or not, by itself and within others.
func TestP402EveryParts(t *testing.T) {
	short := []api.Type{tInt, bad, nobody, fields(api.TUnion, ""), of(api.TOpt, tInt)}
	lists := [][]api.Type{nil, {}}
	for _, x := range short {
		lists = append(lists, []api.Type{x}, []api.Type{x, tInt, tInt})
		for _, y := range short {
			lists = append(lists, []api.Type{x, y})
		}
	}
	told := map[api.Errno]int{}
	for kind := -1; kind <= 11; kind++ {
		for _, name := range []string{"", "A", "O", "X", "1"} {
			for _, names := range []string{"", "a", "1", "a b", "b a", "a a", "1 a", "a 1", "a b c", "a c b"} {
				for _, kids := range lists {
					x := api.Type{Kind: kind, Name: name, Names: strings.Fields(names), Kids: kids}
					for _, s := range places(x) {
						told[compare(t, s)]++
					}
					for _, y := range grown([]api.Type{x}) {
						told[compare(t, places(y)[0])]++
					}
				}
			}
		}
	}
	for _, e := range []api.Errno{api.OK, api.ErrArg, api.ErrForm, api.ErrName, api.ErrIs, api.ErrType} {
		if told[e] < 10 {
			t.Errorf("%v: %d times", e, told[e])
		}
	}
}

// maker makes schemas.
type maker struct {
	r     row
	names []string // of the named types
	left  int      // types that may yet be made
}

// oneType makes a type of at most that depth.
func (m *maker) oneType(depth int) api.Type {
	m.left--
	kind := 1 + m.r.below(9)
	if m.r.below(3) == 0 {
		kind = api.TRec + m.r.below(2)
	}
	if (depth == 1 || m.left <= 0) && kind >= api.TList && kind <= api.TUnion || kind == api.TName && len(m.names) == 0 {
		kind = api.TInt
	}
	switch kind {
	case api.TName:
		return called(pick(&m.r, m.names))
	case api.TList, api.TMap, api.TOpt:
		return of(kind, m.oneType(depth-1))
	case api.TRec, api.TUnion:
		x := api.Type{Kind: kind, Names: m.risen("a b c d A B _ _1 a1 Int len abcdefghijklmnop", 1+m.r.below(8))}
		for range x.Names {
			x.Kids = append(x.Kids, m.oneType(depth-1))
		}
		return x
	}
	return api.Type{Kind: kind}
}

// risen are at most so many of the names, each behind the one ahead.
func (m *maker) risen(all string, n int) []string {
	var l []string
	for range n {
		l = append(l, pick(&m.r, strings.Fields(all)))
	}
	slices.Sort(l)
	return slices.Compact(l)
}

func (m *maker) schema(depth int) api.Schema {
	var s api.Schema
	m.names = m.risen("A B C D a b c d _ A1 Boolean len", m.r.below(13))
	m.left = 100 + m.r.below(300)
	for _, n := range m.names {
		s.Types = append(s.Types, api.Named{Name: n, T: m.oneType(1 + m.r.below(depth))})
	}
	s.Main = m.oneType(depth)
	for _, n := range m.risen("f g h Int List A a _ lens", m.r.below(5)) {
		g := api.Sig{Name: n, Result: m.oneType(1 + m.r.below(depth))}
		for range m.r.below(5) {
			g.Params = append(g.Params, m.oneType(1+m.r.below(depth)))
		}
		s.Sigs = append(s.Sigs, g)
	}
	return s
}

// insides are a type and all within it, to be changed.
func insides(x *api.Type) []*api.Type {
	l := []*api.Type{x}
	for i := range x.Kids {
		l = append(l, insides(&x.Kids[i])...)
	}
	return l
}

func allInsides(s *api.Schema) []*api.Type {
	l := insides(&s.Main)
	for i := range s.Types {
		l = append(l, insides(&s.Types[i].T)...)
	}
	for i := range s.Sigs {
		l = append(l, insides(&s.Sigs[i].Result)...)
		for k := range s.Sigs[i].Params {
			l = append(l, insides(&s.Sigs[i].Params[k])...)
		}
	}
	return l
}

// spoilType changes one type in one way, most of which make it one that may not be.
func (m *maker) spoilType(x *api.Type) {
	switch m.r.below(9) {
	case 0:
		x.Kind = m.r.below(13) - 1
	case 1:
		x.Name = pick(&m.r, []string{"", "A", "X", "1"})
	case 2:
		x.Names = append(x.Names, pick(&m.r, []string{"", "z", "zz", "1"}))
	case 3:
		x.Kids = append(x.Kids, m.oneType(2))
	case 4:
		x.Names = x.Names[:len(x.Names)/2]
	case 5:
		x.Kids = x.Kids[:len(x.Kids)/2]
	case 6:
		for i := range x.Names {
			x.Names[i] = x.Names[m.r.below(len(x.Names))]
		}
	case 7:
		*x = wide(api.TRec+m.r.below(2), 8+m.r.below(2), *x)
	case 8:
		for range m.r.below(6) {
			*x = of(api.TList+m.r.below(3), *x)
		}
	}
}

func (m *maker) spoil(s *api.Schema) {
	names := []string{"", "A", "B", "f", "1", "Int", "Opt", "len", "orelse", "zzz", "zzzzzzzzzzzzzzzzz"}
	switch m.r.below(12) {
	case 0:
		s.Types = append(s.Types, api.Named{Name: pick(&m.r, names), T: m.oneType(3)})
	case 1:
		s.Sigs = append(s.Sigs, api.Sig{Name: pick(&m.r, names), Params: make([]api.Type, m.r.below(6)), Result: m.oneType(3)})
	case 2:
		slices.Reverse(s.Types)
	case 3:
		slices.Reverse(s.Sigs)
	case 4:
		s.Types = s.Types[:len(s.Types)/2]
	default:
		m.spoilType(pick(&m.r, allInsides(s)))
	}
}

// P402, P403: schemas of all sizes, as they were made and spoiled once or more.
func TestP402MadeSchemas(t *testing.T) {
	m := maker{r: 1}
	told := map[api.Errno]int{}
	for i := range 10000 {
		s := m.schema(1 + i%12)
		for range i % 4 {
			m.spoil(&s)
		}
		e := compare(t, s)
		told[e]++
		if e == api.OK || e == api.ErrLoop || e == api.ErrType {
			m.names = nil
			for _, n := range s.Types {
				m.names = append(m.names, n.Name)
			}
			m.left = 40
			l := []api.Type{m.oneType(3), m.oneType(5)}
			for _, x := range insides(&s.Main) {
				l = append(l, *x)
			}
			compareFinite(t, s, l[:min(len(l), 10)])
		}
	}
	for _, e := range []api.Errno{api.OK, api.ErrArg, api.ErrMany, api.ErrForm, api.ErrDeep, api.ErrLoop, api.ErrName, api.ErrIs, api.ErrType, api.ErrArgs} {
		if told[e] < 10 {
			t.Errorf("%v: %d times", e, told[e])
		}
	}
}

// P404: what may be has only names that lead somewhere, in no more steps than there are names.
func TestP404NamesOpen(t *testing.T) {
	m := maker{r: 2}
	opened := 0
	for range 20000 {
		s := m.schema(2)
		if Check(s) != api.OK {
			continue
		}
		for _, x := range allInsides(&s) {
			y := *x
			for range s.Types {
				if y.Kind == api.TName {
					y = s.Types[place(s, y.Name)].T
					opened++
				}
			}
			if y.Kind == api.TName {
				t.Fatalf("%s: %s is not opened", sch.Text(s), x.Name)
			}
		}
	}
	if opened < 10000 {
		t.Errorf("only %d were opened", opened)
	}
}
