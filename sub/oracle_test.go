package sub

import (
	"slices"
	"strings"
	"testing"

	"sprue/api"
	"sprue/cons"
	"sprue/sch"
	"sprue/shape"
)

// dice are numbers that look like any; the same ones each time.
type dice uint64

func (d *dice) below(n int) int {
	*d = *d*6364136223846793005 + 1442695040888963407
	return int(uint64(*d)>>33) % n
}

func pick[T any](d *dice, l []T) T { return l[d.below(len(l))] }

// claims are the promise once more, by other means: trees, told apart by how they are written.
type claims struct {
	s  api.Schema
	l  []api.Type
	at map[string]int
}

func claimed(s api.Schema, k *cons.Table) *claims {
	c := &claims{s: s, at: map[string]int{}}
	for id := range k.Len() {
		c.l = append(c.l, k.Type(id))
		c.at[sch.TypeText(c.l[id])] = id
	}
	return c
}

func (c *claims) pair(x, y api.Type) [2]int {
	a, ok := c.at[sch.TypeText(x)]
	b, there := c.at[sch.TypeText(y)]
	if !ok || !there {
		panic("no such type: " + sch.TypeText(x) + ", " + sch.TypeText(y))
	}
	return [2]int{a, b}
}

func (c *claims) open(x api.Type) api.Type {
	for x.Kind == api.TName {
		x = c.s.Types[slices.IndexFunc(c.s.Types, func(n api.Named) bool { return n.Name == x.Name })].T
	}
	return x
}

func byName(x api.Type) map[string]api.Type {
	m := map[string]api.Type{}
	for i, n := range x.Names {
		m[n] = x.Kids[i]
	}
	return m
}

// never is a pair that does not hold.
var never = [2]int{-1, -1}

// asks are the pairs that a pair of types asks, in order.
func (c *claims) asks(p [2]int) [][2]int {
	x, y := c.open(c.l[p[0]]), c.open(c.l[p[1]])
	if y.Kind == api.TOpt {
		if x.Kind == api.TOpt {
			x = x.Kids[0]
		}
		return [][2]int{c.pair(x, y.Kids[0])}
	}
	if x.Kind != y.Kind {
		return [][2]int{never}
	}
	if x.Kind == api.TList || x.Kind == api.TMap {
		return [][2]int{c.pair(x.Kids[0], y.Kids[0])}
	}
	names := y.Names
	if x.Kind == api.TUnion {
		names = x.Names
	}
	var l [][2]int
	for _, n := range names {
		a, ok := byName(x)[n]
		b, there := byName(y)[n]
		if !ok || !there {
			return append(l, never)
		}
		l = append(l, c.pair(a, b))
	}
	return l
}

// greatest is the row of pairs that is left when all that do not hold are taken away, over and over.
func (c *claims) greatest() map[[2]int]bool {
	asks := map[[2]int][][2]int{}
	left := map[[2]int]bool{}
	for a := range c.l {
		for b := range c.l {
			left[[2]int{a, b}] = true
			if a != b {
				asks[[2]int{a, b}] = c.asks([2]int{a, b})
			}
		}
	}
	for more := true; more; {
		more = false
		for p, l := range asks {
			if left[p] && slices.ContainsFunc(l, func(q [2]int) bool { return !left[q] }) {
				left[p] = false
				more = true
			}
		}
	}
	return left
}

// opened counts the pairs that are opened, by a stack of those that are to come.
func (c *claims) opened(p [2]int) int {
	opened := map[[2]int]bool{}
	for todo := [][2]int{p}; len(todo) > 0; {
		p, todo = todo[len(todo)-1], todo[:len(todo)-1]
		if p == never {
			break
		}
		if p[0] == p[1] || opened[p] {
			continue
		}
		opened[p] = true
		l := c.asks(p)
		slices.Reverse(l)
		todo = append(todo, l...)
	}
	return len(opened)
}

// maker makes types and schemas of few names, so that many fit others.
type maker struct {
	d     dice
	names []string // of the named types
	left  int      // types that may yet be made
}

// oneType makes a type of at most that depth.
func (m *maker) oneType(depth int) api.Type {
	m.left--
	if depth == 1 || m.left <= 0 {
		return m.short()
	}
	switch kind := pick(&m.d, []int{api.TInt, api.TName, api.TName, api.TList, api.TMap, api.TOpt, api.TOpt, api.TRec, api.TRec, api.TRec, api.TUnion, api.TUnion}); kind {
	case api.TList, api.TMap, api.TOpt:
		return api.Type{Kind: kind, Kids: []api.Type{m.oneType(depth - 1)}}
	case api.TRec, api.TUnion:
		x := api.Type{Kind: kind, Names: m.some("a b c")}
		if len(x.Names) == 0 && kind == api.TUnion {
			x.Names = []string{"a"}
		}
		for range x.Names {
			x.Kids = append(x.Kids, m.oneType(depth-1))
		}
		return x
	}
	return m.short()
}

func (m *maker) short() api.Type {
	if len(m.names) > 0 && m.d.below(3) > 0 {
		return api.Type{Kind: api.TName, Name: pick(&m.d, m.names)}
	}
	return api.Type{Kind: pick(&m.d, []int{api.TInt, api.TInt, api.TInt, api.TText, api.TBool, api.TRec})}
}

// some are some of the names.
func (m *maker) some(all string) []string {
	return slices.DeleteFunc(strings.Fields(all), func(string) bool { return m.d.below(3) == 0 })
}

// near is a type that is the same, but for a place or two.
func (m *maker) near(x api.Type) api.Type {
	if m.d.below(8) == 0 {
		return m.oneType(2)
	}
	y := api.Type{Kind: x.Kind, Name: x.Name}
	for i, k := range x.Kids {
		if x.Kind < api.TRec {
			y.Kids = append(y.Kids, m.near(k))
		} else if i == 0 || m.d.below(6) > 0 {
			y.Kids, y.Names = append(y.Kids, m.near(k)), append(y.Names, x.Names[i])
		}
	}
	if y.Kind == api.TName {
		y.Name = pick(&m.d, m.names)
	}
	if m.d.below(8) == 0 && m.left > 0 {
		return api.Type{Kind: api.TOpt, Kids: []api.Type{y}}
	}
	return y
}

func (m *maker) schema() api.Schema {
	m.names = m.some("A B C D E F G")
	m.left = 5 + m.d.below(60)
	var s api.Schema
	for i, n := range m.names {
		x := m.oneType(1 + m.d.below(5))
		if i > 0 && m.d.below(2) == 0 {
			x = m.near(s.Types[m.d.below(i)].T)
		}
		s.Types = append(s.Types, api.Named{Name: n, T: x})
	}
	s.Main = m.oneType(4)
	return s
}

// table is that of a schema, with more types, while there is room.
func (m *maker) table(s api.Schema) (*cons.Table, bool) {
	if shape.Check(s) != api.OK {
		return nil, false
	}
	k, e := cons.New(s)
	if e != api.OK {
		return nil, false
	}
	for range m.d.below(12) {
		m.left = 1 + m.d.below(12)
		if x := m.d.below(3); x == 0 {
			k.Opt(m.d.below(k.Len()))
		} else if x == 1 {
			k.Add(m.near(k.Type(m.d.below(k.Len()))))
		} else {
			k.Add(m.oneType(4))
		}
	}
	return k, true
}

// count is of how many tables, and of questions by what is answered.
type count struct{ tables, fit, not, far int }

// hold asks for every two types of a table, and holds the answers against the claims.
func (n *count) hold(t *testing.T, k *cons.Table, c *claims) {
	t.Helper()
	n.tables++
	row := c.greatest()
	was := k.Len()
	for p, want := range row {
		is, pairs := Le(k, p[0], p[1])
		if is != want || pairs != c.opened(p) || pairs > was*was || k.Len() != was {
			t.Fatalf("%s, %s: %v, %d, not %v, %d; of %s", sch.TypeText(c.l[p[0]]), sch.TypeText(c.l[p[1]]), is, pairs, want, c.opened(p), sch.Text(c.s))
		}
		switch {
		case p[0] == p[1]:
		case is:
			n.fit++
		default:
			n.not++
		}
		if pairs > 8 {
			n.far++
		}
	}
}

// P601, P602: made schemas, and more types: every two of each.
func TestP601MadeTables(t *testing.T) {
	var n count
	for i := range 6000 {
		m := maker{d: dice(i)}
		s := m.schema()
		if k, ok := m.table(s); ok {
			n.hold(t, k, claimed(s, k))
		}
	}
	if n.tables < 1500 || n.fit < 50000 || n.not < 500000 || n.far < 1000 {
		t.Errorf("%+v", n)
	}
}

// P603: each type fits itself; of three types, as they fit one another.
func TestP603Order(t *testing.T) {
	threes := 0
	for i := range 2000 {
		m := maker{d: dice(i)}
		k, ok := m.table(m.schema())
		if !ok {
			continue
		}
		is := fitting(t, k)
		for a, l := range is {
			for _, b := range l {
				for _, c := range is[b] {
					if !slices.Contains(l, c) {
						t.Fatalf("%s, %s, %s", sch.TypeText(k.Type(a)), sch.TypeText(k.Type(b)), sch.TypeText(k.Type(c)))
					}
					if a != b && b != c && a != c {
						threes++
					}
				}
			}
		}
	}
	if threes < 10000 {
		t.Errorf("%d", threes)
	}
}

// fitting are, of each type, those where it fits; itself with no pair opened.
func fitting(t *testing.T, k *cons.Table) [][]int {
	t.Helper()
	all := make([][]int, k.Len())
	for a := range all {
		if is, n := Le(k, a, a); !is || n != 0 {
			t.Errorf("%s: %v, %d", sch.TypeText(k.Type(a)), is, n)
		}
		for b := range all {
			if is, _ := Le(k, a, b); is {
				all[a] = append(all[a], b)
			}
		}
	}
	return all
}

// P601: every two short types.
func TestP601EveryTwo(t *testing.T) {
	s := "data Int; type A = {a: Opt<A>}; type B = {a: Opt<B>, b: Int}; type U = Union {a: List<U>}; type V = Union {a: List<V>, b: U}; type I = Int; type O = Opt<I>;"
	x, _ := sch.Parse(s)
	single := strings.Fields("Int Text {} A B U V I O")
	var n count
	for _, form := range []string{"List<_>", "Map<_>", "Opt<_>", "{a: _}", "{b: _}", "{a: _, b: Int}", "{a: Int, b: _}", "Union {a: _}", "Union {b: _}", "Union {a: _, b: Int}", "Union {a: Int, b: _}", "List<Opt<_>>", "Opt<List<_>>"} {
		for _, other := range []string{"List<_>", "Opt<_>", "{a: _}", "{a: _, b: _}", "{a: Opt<_>}", "Union {a: _, b: _}", "Union {a: Opt<_>}"} {
			k := tabled(s)
			for _, y := range single {
				added(k, typed(strings.ReplaceAll(form, "_", y)))
				added(k, typed(strings.ReplaceAll(other, "_", y)))
			}
			n.hold(t, k, claimed(x, k))
		}
	}
	if n.fit < 5000 || n.not < 50000 {
		t.Errorf("%+v", n)
	}
}
