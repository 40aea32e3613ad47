package kinds

import (
	"slices"
	"strings"
	"testing"

	"sprue/api"
	"sprue/cons"
	"sprue/sch"
	"sprue/sub"
)

// dice are numbers that look like any; the same ones each time.
type dice uint64

func (d *dice) below(n int) int {
	*d = *d*6364136223846793005 + 1442695040888963407
	return int(uint64(*d)>>33) % n
}

func pick[T any](d *dice, l []T) T { return l[d.below(len(l))] }

// promise is the chapter's table once more, as it is written there, by what is held against texts of types: _ is a kid, =_ that very one.
const promise = `
len: Text -> Int
len: List<_> -> Int
len: Map<_> -> Int
not: Bool -> Bool
and or: Bool Bool -> Bool
eq: Bool Bool -> Bool
eq: Int Int -> Bool
eq: Text Text -> Bool
lt: Int Int -> Bool
add sub mul shl shr: Int Int -> Int
i8 i16 i32 u8 u16 u32: Int -> Int
cat: Text Text -> Text
text: Int -> Text
text: Bool -> Text
at: List<_> Int -> _
get: Map<_> Text -> Opt<_>
has: Opt<_> -> Bool
orelse: Opt<_> =_ -> _`

// rule is one that a function answers by.
type rule struct {
	takes  []string
	answer string
}

func rules() map[string][]rule {
	m := map[string][]rule{}
	for _, line := range strings.Split(strings.TrimSpace(promise), "\n") {
		named, rest, _ := strings.Cut(line, ":")
		takes, answer, _ := strings.Cut(rest, "->")
		for _, name := range strings.Fields(named) {
			m[name] = append(m[name], rule{strings.Fields(takes), strings.TrimSpace(answer)})
		}
	}
	return m
}

// claims are what a table has, as texts, and what its schema says.
type claims struct {
	s     api.Schema
	rules map[string][]rule
	l     []string // the types, by numbers
}

func claimed(s api.Schema, k *cons.Table) *claims {
	c := &claims{s: s, rules: rules()}
	c.more(k)
	return c
}

func (c *claims) more(k *cons.Table) {
	for id := len(c.l); id < k.Len(); id++ {
		c.l = append(c.l, sch.TypeText(k.Type(id)))
	}
}

// open is what a type's text stands for.
func (c *claims) open(x string) string {
	i := slices.IndexFunc(c.s.Types, func(n api.Named) bool { return n.Name == x })
	if i < 0 {
		return x
	}
	return c.open(sch.TypeText(c.s.Types[i].T))
}

// matches tells whether a rule takes these, and what _ is.
func (c *claims) matches(r rule, args []string) (kid string, ok bool) {
	for i, want := range r.takes {
		head, _, part := strings.Cut(want, "_")
		x := c.open(args[i])
		switch {
		case want == "=_":
			ok = args[i] == kid
		case part:
			ok = strings.HasPrefix(x, head)
			kid = strings.TrimSuffix(strings.TrimPrefix(x, head), ">")
		default:
			ok = x == want
		}
		if !ok {
			return "", false
		}
	}
	return kid, true
}

// builtin is what a builtin function answers, as a text; an error by its word.
func (c *claims) builtin(l []rule, args []string) string {
	if len(args) != len(l[0].takes) {
		return "args"
	}
	for _, r := range l {
		kid, ok := c.matches(r, args)
		if !ok || r.answer == "Opt<_>" && strings.HasPrefix(c.open(kid), "Opt<") {
			continue
		}
		return strings.ReplaceAll(r.answer, "_", kid)
	}
	return "type"
}

// answer is what a function answers.
func (c *claims) answer(k *cons.Table, name string, args []int) string {
	if l := c.rules[name]; l != nil {
		return c.builtin(l, c.texts(args))
	}
	i := slices.IndexFunc(c.s.Sigs, func(g api.Sig) bool { return g.Name == name })
	if i < 0 {
		return "name"
	}
	g := c.s.Sigs[i]
	if len(args) != len(g.Params) {
		return "args"
	}
	for j, p := range g.Params {
		if ok, _ := sub.Le(k, args[j], c.number(sch.TypeText(p))); !ok {
			return "type"
		}
	}
	return sch.TypeText(g.Result)
}

// texts are those of numbers; of what is no type's one that no type has.
func (c *claims) texts(ids []int) []string {
	var l []string
	for _, id := range ids {
		if id < 0 || id >= len(c.l) {
			l = append(l, "?")
			continue
		}
		l = append(l, c.l[id])
	}
	return l
}

// number is that of the type that is written so, or the next one.
func (c *claims) number(x string) int {
	if id := slices.Index(c.l, x); id >= 0 {
		return id
	}
	return len(c.l)
}

// count is of answers, by what they are.
type count map[string]int

// hold asks, and holds the answer, the table behind it, and the answer to the same question once more, against the claims.
func (n count) hold(t *testing.T, k *cons.Table, c *claims, name string, args []int) {
	t.Helper()
	want := c.answer(k, name, args)
	id, size, e := 0, len(c.l), api.OK
	switch want {
	case "name":
		e = api.ErrName
	case "args":
		e = api.ErrArgs
	case "type":
		e = api.ErrType
	default:
		id = c.number(want)
		size = max(size, id+1)
		if size > api.MaxTypes {
			id, size, e = 0, api.MaxTypes, api.ErrBig
		}
	}
	for range 2 {
		got, err := Of(k, name, args)
		if got != id || err != e || k.Len() != size {
			t.Fatalf("%s %v: %d, %v, of %d; not %d, %v, of %d; of %s", name, c.texts(args), got, err, k.Len(), id, e, size, sch.Text(c.s))
		}
	}
	c.more(k)
	if e == api.OK && c.l[id] != want {
		t.Fatalf("%s %v: %s, not %s", name, c.texts(args), c.l[id], want)
	}
	n[e.Error()]++
	if e == api.OK {
		n[name]++
	}
}

// maker makes types and schemas of few names.
type maker struct {
	d     dice
	names []string // of the named types
	own   int      // how many types of a table are none that fill it
}

func (m *maker) short() api.Type {
	if len(m.names) > 0 && m.d.below(2) == 0 {
		return api.Type{Kind: api.TName, Name: pick(&m.d, m.names)}
	}
	return api.Type{Kind: pick(&m.d, []int{api.TBool, api.TInt, api.TText, api.TInt, api.TText, api.TRec})}
}

// oneType makes a type of at most that depth.
func (m *maker) oneType(depth int) api.Type {
	if depth <= 1 {
		return m.short()
	}
	switch kind := pick(&m.d, []int{api.TName, api.TName, api.TList, api.TList, api.TMap, api.TMap, api.TOpt, api.TOpt, api.TOpt, api.TRec, api.TUnion}); kind {
	case api.TList, api.TMap, api.TOpt:
		return api.Type{Kind: kind, Kids: []api.Type{m.oneType(depth - 1)}}
	case api.TRec, api.TUnion:
		x := api.Type{Kind: kind}
		for _, name := range []string{"a", "b", "c"}[:1+m.d.below(2)] {
			x.Names, x.Kids = append(x.Names, name), append(x.Kids, m.oneType(depth-1))
		}
		return x
	}
	return m.short()
}

func (m *maker) some(all string) []string {
	return slices.DeleteFunc(strings.Fields(all), func(string) bool { return m.d.below(3) == 0 })
}

func (m *maker) schema() api.Schema {
	m.names = m.some("A B C D E F")
	var s api.Schema
	for _, n := range m.names {
		s.Types = append(s.Types, api.Named{Name: n, T: m.oneType(1 + m.d.below(3))})
	}
	s.Main = m.oneType(3)
	for _, n := range m.some("f g h") {
		g := api.Sig{Name: n, Result: m.oneType(2)}
		for range m.d.below(5) {
			g.Params = append(g.Params, m.oneType(1+m.d.below(2)))
		}
		s.Sigs = append(s.Sigs, g)
	}
	return s
}

// table is that of a schema, with more types.
func (m *maker) table(s api.Schema) (*cons.Table, bool) {
	k, e := cons.New(s)
	if e != api.OK {
		return nil, false
	}
	for range m.d.below(20) {
		k.Add(m.oneType(1 + m.d.below(4)))
	}
	m.own = k.Len()
	if m.d.below(2) == 0 { // few or no types have room
		for i := range api.MaxTypes - m.d.below(3) - k.Len() {
			k.Add(api.Type{Kind: api.TRec, Names: []string{"z" + string(rune('0'+i%10)) + string(rune('0'+i/10))}, Kids: []api.Type{{Kind: api.TRec}}})
		}
	}
	return k, true
}

// like is one of the types that, opened, are of that kind; any, if there is none.
func (m *maker) like(k *cons.Table, kind int) int {
	var l []int
	for id := range m.own {
		o, _ := k.Open(id)
		if x, _ := k.Node(o); x.Kind == kind {
			l = append(l, id)
		}
	}
	if l == nil {
		return m.d.below(k.Len())
	}
	return pick(&m.d, l)
}

// near are arguments of which each may well be what a function takes there.
func (m *maker) near(k *cons.Table, name string) []int {
	if p, _, ok := k.Sig(name); ok {
		return p
	}
	l := rules()[name]
	if l == nil {
		return nil
	}
	heads := map[string]int{"Bool": api.TBool, "Int": api.TInt, "Text": api.TText, "List<_>": api.TList, "Map<_>": api.TMap, "Opt<_>": api.TOpt}
	var args []int
	for _, x := range pick(&m.d, l).takes {
		if x == "=_" {
			o, _ := k.Open(args[0])
			n, _ := k.Node(o)
			args = append(args, append(n.Kids, 0)[0])
			continue
		}
		args = append(args, m.like(k, heads[x]))
	}
	return args
}

// asked are a name and arguments: such as are near to what it takes, some of them spoiled.
func (m *maker) asked(k *cons.Table) (string, []int) {
	name := pick(&m.d, append(all, "at", "get", "get", "get", "orelse", "f", "g", "h", "none", ""))
	args := m.near(k, name)
	for i := range args {
		if m.d.below(4) == 0 {
			args[i] = m.d.below(m.own)
		}
		if m.d.below(60) == 0 {
			args[i] = pick(&m.d, []int{-1, k.Len(), 120, 1 << 40, -1 << 63})
		}
	}
	switch m.d.below(20) {
	case 0:
		args = append(args, m.d.below(k.Len()))
	case 1:
		args = args[:max(len(args), 1)-1]
	}
	return name, args
}

// P801: made schemas, more types, and rows of calls, full tables among them.
func TestP801MadeCalls(t *testing.T) {
	n := count{}
	for i := range 4000 {
		m := maker{d: dice(i)}
		s := m.schema()
		k, ok := m.table(s)
		if !ok {
			continue
		}
		n["table"]++
		c := claimed(s, k)
		for range 150 {
			name, args := m.asked(k)
			n.hold(t, k, c, name, args)
		}
	}
	for _, x := range strings.Fields("len not and or eq lt add sub mul shl shr i8 i16 i32 u8 u16 u32 cat text at get has orelse f g h table name args type big ok") {
		if n[x] < 300 {
			t.Errorf("%s: %d", x, n[x])
		}
	}
}

// P801: every builtin function, and those of a schema, of every two types of a table, each of them, and none.
func TestP801EveryTwo(t *testing.T) {
	s, _ := sch.Parse(names)
	k := tabled(names)
	added(k, strings.Join(every, " "))
	added(k, "Opt<O> Opt<J> Opt<Int> List<O> Map<P> Map<Int> Opt<List<I>> Opt<Map<I>> List<Map<I>> {a:I} {a:Int,b:O}")
	c := claimed(s, k)
	n := count{}
	size := k.Len()
	for _, name := range append(all, "none") {
		n.hold(t, k, c, name, nil)
		for a := -1; a <= size; a++ {
			n.hold(t, k, c, name, []int{a})
			for b := -1; b <= size; b++ {
				n.hold(t, k, c, name, []int{a, b})
			}
		}
	}
	if n["ok"] < 150 || n["type"] < 20000 {
		t.Errorf("%v", n)
	}
}
