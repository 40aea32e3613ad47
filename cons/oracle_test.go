package cons

import (
	"slices"
	"strings"
	"testing"

	"sprue/api"
	"sprue/sch"
	"sprue/shape"
)

// row is a row of numbers that look like any; the same ones each time.
type row uint64

func (r *row) below(n int) int {
	*r = *r*6364136223846793005 + 1442695040888963407
	return int(uint64(*r)>>33) % n
}

func pick[T any](r *row, l []T) T { return l[r.below(len(l))] }

// claims are the promise once more, by other means: a row of trees, each held against all.
type claims struct {
	s api.Schema
	l []api.Type
}

// place is a tree's among those that are there; -1: it is not.
func (c *claims) place(x api.Type) int {
	return slices.IndexFunc(c.l, func(y api.Type) bool { return sch.Same(x, y) })
}

// behind is a type behind all that is within it.
func behind(x api.Type) []api.Type {
	var l []api.Type
	for _, k := range x.Kids {
		l = append(l, behind(k)...)
	}
	return append(l, x)
}

func (c *claims) add(x api.Type) (int, api.Errno) {
	for _, y := range behind(x) {
		if c.place(y) >= 0 {
			continue
		}
		if len(c.l) == 120 {
			return 0, api.ErrBig
		}
		c.l = append(c.l, y)
	}
	return c.place(x), api.OK
}

// start are all types of a schema, in the order in which they are added.
func start(s api.Schema) []api.Type {
	var l []api.Type
	for _, n := range s.Types {
		l = append(l, n.T)
	}
	l = append(l, s.Main)
	for _, g := range s.Sigs {
		l = append(append(l, g.Params...), g.Result)
	}
	return l
}

// claimed are the claims of a schema that may be.
func claimed(s api.Schema) (*claims, api.Errno) {
	c := &claims{s: s}
	for _, x := range start(s) {
		if _, e := c.add(x); e != api.OK {
			return nil, e
		}
	}
	return c, api.OK
}

// open goes through names, by the schema.
func (c *claims) open(x api.Type) api.Type {
	for range 13 {
		for _, n := range c.s.Types {
			if x.Kind == api.TName && x.Name == n.Name {
				x = n.T
			}
		}
	}
	return x
}

// places are those of types.
func (c *claims) places(l []api.Type) []int {
	var n []int
	for _, x := range l {
		n = append(n, c.place(x))
	}
	return n
}

// compare holds all that a table tells against the claims.
func compare(t *testing.T, x *Table, c *claims) {
	t.Helper()
	if x.Len() != len(c.l) || x.Main() != c.place(c.s.Main) {
		t.Fatalf("%d types, main %d; not %d, %d", x.Len(), x.Main(), len(c.l), c.place(c.s.Main))
	}
	for id, want := range c.l {
		if got := x.Type(id); !sch.Same(got, want) {
			t.Fatalf("%d: %s, not %s", id, sch.TypeText(got), sch.TypeText(want))
		}
		n, ok := x.Node(id)
		if !ok || n.Kind != want.Kind || n.Name != want.Name || !slices.Equal(n.Names, want.Names) || !slices.Equal(n.Kids, c.places(want.Kids)) {
			t.Fatalf("%d: %+v, %v, not %s", id, n, ok, sch.TypeText(want))
		}
		if o, ok := x.Open(id); !ok || o != c.place(c.open(want)) {
			t.Fatalf("%d: open %d, %v, not %d", id, o, ok, c.place(c.open(want)))
		}
	}
	for _, g := range c.s.Sigs {
		wantSig(t, x, g.Name, c.places(g.Params), c.place(g.Result))
	}
	wantNone(t, x, -1)
	wantNone(t, x, len(c.l))
}

// maker makes types and schemas.
type maker struct {
	r     row
	names []string // of the named types
	left  int      // types that may yet be made
}

// oneType makes a type of at most that depth.
func (m *maker) oneType(depth int) api.Type {
	m.left--
	kind := 1 + m.r.below(9)
	if m.r.below(3) == 0 {
		kind = api.TRec + m.r.below(2)
	}
	if (depth == 1 || m.left <= 0) && kind >= api.TList && kind <= api.TUnion || kind == api.TName && len(m.names) == 0 {
		kind = api.TInt
	}
	switch kind {
	case api.TName:
		return called(pick(&m.r, m.names))
	case api.TList, api.TMap, api.TOpt:
		return of(kind, m.oneType(depth-1))
	case api.TRec, api.TUnion:
		x := api.Type{Kind: kind, Names: m.risen("a b c d A B _ _1 a1 Int len abcdefghijklmnop", 1+m.r.below(8))}
		for range x.Names {
			x.Kids = append(x.Kids, m.oneType(depth-1))
		}
		return x
	}
	return api.Type{Kind: kind}
}

// risen are at most so many of the names, each behind the one ahead.
func (m *maker) risen(all string, n int) []string {
	var l []string
	for range n {
		l = append(l, pick(&m.r, strings.Fields(all)))
	}
	slices.Sort(l)
	return slices.Compact(l)
}

func (m *maker) schema(depth int) api.Schema {
	var s api.Schema
	m.names = m.risen("A B C D a b c d _ A1 Boolean len", m.r.below(13))
	m.left = 5 + m.r.below(380)
	for _, n := range m.names {
		s.Types = append(s.Types, api.Named{Name: n, T: m.oneType(1 + m.r.below(depth))})
	}
	s.Main = m.oneType(depth)
	for _, n := range m.risen("f g h Int List A a _ lens", m.r.below(5)) {
		g := api.Sig{Name: n, Result: m.oneType(1 + m.r.below(depth))}
		for range m.r.below(5) {
			g.Params = append(g.Params, m.oneType(1+m.r.below(depth)))
		}
		s.Sigs = append(s.Sigs, g)
	}
	return s
}

// told is how often each error was told.
type told map[api.Errno]int

// step asks one thing of a table, that changes it perhaps, and of the claims.
func (m *maker) step(t *testing.T, x *Table, c *claims, seen told) {
	t.Helper()
	var id, want int
	var e, wantError api.Errno
	switch m.r.below(4) {
	case 0:
		k := m.r.below(len(c.l))
		id, e = x.Opt(k)
		want, wantError = c.add(of(api.TOpt, c.l[k]))
	case 1:
		k := api.TBool + m.r.below(3)
		id, e = x.Base(k)
		want, wantError = c.add(api.Type{Kind: k})
	default:
		m.left = 1 + m.r.below(60)
		k := m.oneType(1 + m.r.below(20))
		if size(k) > 400 {
			return
		}
		id, e = x.Add(k)
		want, wantError = c.add(k)
	}
	if id != want || e != wantError {
		t.Fatalf("%d, %v, not %d, %v", id, e, want, wantError)
	}
	seen[e]++
}

// P501, P502, P503: made schemas, and made rows of asking them for more types, till tables are full.
func TestP501MadeTables(t *testing.T) {
	news, steps := told{}, told{}
	for i := range 2000 {
		m := maker{r: row(i)}
		s := m.schema(2 + i%11)
		x, e := New(s)
		want := shape.Check(s)
		var c *claims
		if want == api.OK {
			c, want = claimed(s)
		}
		if news[e]++; e != want || (x == nil) != (want != api.OK) {
			t.Fatalf("%v, not %v: %s", e, want, sch.Text(s))
		}
		if x == nil {
			continue
		}
		compare(t, x, c)
		for range m.r.below(30) {
			m.step(t, x, c, steps)
		}
		compare(t, x, c)
	}
	if news[api.OK] < 500 || news[api.ErrBig] < 10 || news[api.ErrLoop] < 100 || steps[api.OK] < 1000 || steps[api.ErrBig] < 500 {
		t.Errorf("told: %v, %v", news, steps)
	}
}

// short are all short types, and longer ones that are nearly alike.
func short() []api.Type {
	single := []api.Type{tInt, {Kind: api.TBool}, {Kind: api.TText}, empty, called("A"), called("B"), called("O")}
	l := slices.Clone(single)
	for _, x := range single {
		for _, kind := range []int{api.TList, api.TMap, api.TOpt} {
			l = append(l, of(kind, x))
		}
		for _, names := range []string{"a", "b", "A", "aa"} {
			l = append(l, fields(api.TRec, names, x), fields(api.TUnion, names, x))
		}
	}
	for _, names := range []string{"a b", "a c", "b c"} {
		for _, two := range [][]api.Type{{tInt, empty}, {empty, tInt}, {tInt, tInt}, {empty, empty}, {called("A"), empty}} {
			l = append(l, fields(api.TRec, names, two...), fields(api.TUnion, names, two...))
		}
	}
	for _, x := range []string{"{a: {a: Int}}", "{a: Union {a: Int}}", "List<List<Int>>", "Opt<Opt<Int>>", "Opt<List<Int>>", "List<Opt<Int>>", "{a: Int, b: Int, c: Int}", "{a: {}, b: {}, c: {}}"} {
		l = append(l, typed(x))
	}
	return l
}

// P503: two types have one number just if they are the same, in whatever table.
func TestP503EveryTwo(t *testing.T) {
	s := parsed("data {}; type A = {}; type B = A; type O = Opt<Int>;")
	l := short()
	same := 0
	for _, a := range l {
		for _, b := range l {
			x, _ := New(s)
			one, e := x.Add(a)
			two, f := x.Add(b)
			if e != api.OK || f != api.OK || (one == two) != sch.Same(a, b) {
				t.Fatalf("%s: %d, %v; %s: %d, %v", sch.TypeText(a), one, e, sch.TypeText(b), two, f)
			}
			if one == two {
				same++
			}
		}
	}
	if same != len(l) || same < 100 {
		t.Errorf("%d of %d", same, len(l))
	}
}
