package sub

import (
	"strings"
	"testing"

	"sprue/api"
	"sprue/cons"
	"sprue/sch"
)

// typed is the type that is written so.
func typed(s string) api.Type {
	x, e := sch.Type(s)
	if e != api.OK {
		panic(s + ": " + e.Error())
	}
	return x
}

// tabled is the table of the schema that is written so.
func tabled(s string) *cons.Table {
	x, e := sch.Parse(s)
	if e != api.OK {
		panic(s + ": " + e.Error())
	}
	t, e := cons.New(x)
	if e != api.OK {
		panic(s + ": " + e.Error())
	}
	return t
}

// added is the number of a type that is added.
func added(t *cons.Table, x api.Type) int {
	id, e := t.Add(x)
	if e != api.OK {
		panic(sch.TypeText(x) + ": " + e.Error())
	}
	return id
}

// asked is a question, and what is to be answered.
type asked struct {
	a, b  string
	is    bool
	pairs int
}

// wantAll fails unless each question is answered so, in a table of its own of that schema, and in one of all their types.
func wantAll(t *testing.T, schema string, l []asked) {
	t.Helper()
	all := tabled(schema)
	for _, x := range l {
		added(all, typed(x.b))
		added(all, typed(x.a))
	}
	for _, x := range l {
		for _, k := range []*cons.Table{tabled(schema), all} {
			wantLe(t, k, added(k, typed(x.a)), added(k, typed(x.b)), x.is, x.pairs)
		}
	}
}

// wantLe fails unless that is answered, the same twice, and no type is made.
func wantLe(t *testing.T, k *cons.Table, a, b int, is bool, pairs int) {
	t.Helper()
	was := k.Len()
	for range 2 {
		got, n := Le(k, a, b)
		if got != is || n != pairs || k.Len() != was {
			t.Errorf("%s, %s: %v, %d, not %v, %d", sch.TypeText(k.Type(a)), sch.TypeText(k.Type(b)), got, n, is, pairs)
		}
	}
}

func TestExample(t *testing.T) {
	wantAll(t, "data Int;", []asked{{"{a: Int, b: Int}", "{a: Opt<Int>}", true, 2}})
}

const names = "data Int; type I = Int; type J = I; type B = Bool; type T = Text; type O = Opt<Int>; type R = {a: Int}; type U = Union {a: Int}; type L = List<Int>; type M = Map<Int>;"

// P601: a type of each kind, and names of such: each fits itself, just those of its own kind, and where an Opt is asked.
func TestP601Kinds(t *testing.T) {
	l := strings.Fields("Bool Int Text List<Int> Map<Int> {a:Int} Union{a:Int}")
	called := strings.Fields("B J T L M R U")
	var all []asked
	for i, a := range l {
		for j, b := range l {
			same := i == j
			pairs := 1
			if same {
				pairs = 0
			}
			all = append(all, asked{a, b, same, pairs}, asked{a, called[j], same, 1}, asked{called[i], b, same, 1})
			all = append(all, asked{called[i], called[j], same, pairs})
			all = append(all, asked{a, "Opt<" + b + ">", same, 1 + pairs}, asked{a, "Opt<" + called[j] + ">", same, 2})
			all = append(all, asked{called[i], "Opt<" + b + ">", same, 1 + pairs}, asked{called[i], "Opt<" + called[j] + ">", same, 2})
		}
		all = append(all, asked{"Opt<" + a + ">", a, false, 1}, asked{"Opt<" + a + ">", called[i], false, 1}, asked{"Opt<" + a + ">", "Opt<" + a + ">", true, 0})
	}
	wantAll(t, names, all)
}

// P601: where an Opt is asked.
func TestP601Opt(t *testing.T) {
	wantAll(t, names, []asked{
		{"Int", "O", true, 1}, {"I", "O", true, 1}, {"J", "O", true, 1}, {"Text", "O", false, 2}, {"T", "O", false, 2},
		{"O", "Int", false, 1}, {"O", "I", false, 1}, {"O", "O", true, 0}, {"O", "Opt<Int>", true, 1}, {"Opt<Int>", "O", true, 1},
		{"Opt<J>", "O", true, 2}, {"O", "Opt<J>", true, 2}, {"Opt<I>", "Opt<J>", true, 2}, {"Opt<Text>", "O", false, 2}, {"O", "Opt<Text>", false, 2},
		{"Opt<{a: Int}>", "Opt<{}>", true, 2}, {"Opt<{}>", "Opt<{a: Int}>", false, 2}, {"R", "Opt<{}>", true, 2},
	})
}

// P601: an Opt within an Opt takes one away on both sides, while there is one.
func TestP601OptOfOpt(t *testing.T) {
	k := tabled(names)
	l := []int{added(k, typed("Int"))}
	for range 4 {
		id, e := k.Opt(l[len(l)-1])
		if e != api.OK {
			t.Fatal(e)
		}
		l = append(l, id)
	}
	for i, a := range l {
		for j, b := range l {
			switch {
			case i == j:
				wantLe(t, k, a, b, true, 0)
			case i == 0:
				wantLe(t, k, a, b, true, j) // the Int and each Opt's kid
			case i < j:
				wantLe(t, k, a, b, true, j)
			default:
				wantLe(t, k, a, b, false, j+1) // an Opt and the Int, in the end
			}
		}
	}
	text := added(k, typed("Text"))
	for j, b := range l {
		wantLe(t, k, text, b, false, j+1)
	}
	o := added(k, typed("O"))
	wantLe(t, k, o, l[2], true, 2)
	wantLe(t, k, l[2], o, false, 2)
	wantLe(t, k, o, added(k, typed("Opt<O>")), true, 2)
	wantLe(t, k, added(k, typed("Opt<O>")), l[2], true, 2)
	wantLe(t, k, added(k, typed("Opt<O>")), o, false, 2)
}

// P601: lists and maps by their kids, however deep.
func TestP601Lists(t *testing.T) {
	wantAll(t, names, []asked{
		{"List<Int>", "List<I>", true, 2}, {"List<J>", "List<I>", true, 2}, {"List<Int>", "List<Text>", false, 2}, {"List<Int>", "L", true, 1}, {"L", "List<J>", true, 2},
		{"Map<Int>", "Map<I>", true, 2}, {"Map<Int>", "Map<Text>", false, 2}, {"Map<Int>", "Map<Opt<Int>>", true, 2}, {"Map<Opt<Int>>", "Map<Int>", false, 2},
		{"List<{a: Int, b: Int}>", "List<R>", true, 2}, {"List<R>", "List<{a: Int, b: Int}>", false, 2}, {"Map<{a: Int}>", "Map<R>", true, 2}, {"List<R>", "List<Union {a: Int}>", false, 2},
		{"List<List<Map<Int>>>", "List<List<Map<O>>>", true, 4}, {"List<List<Map<O>>>", "List<List<Map<Int>>>", false, 4}, {"List<List<Int>>", "List<Map<Int>>", false, 2}, {"List<List<Int>>", "List<Int>", false, 2},
		{"List<L>", "Opt<List<List<O>>>", true, 4}, {"Opt<List<L>>", "List<L>", false, 1}, {"List<Opt<L>>", "Opt<List<L>>", false, 3},
	})
}

// P601: each name that is asked is one of the record's; which others it has counts for nothing.
func TestP601Records(t *testing.T) {
	wantAll(t, names, []asked{
		{"R", "{a: Int}", true, 1}, {"{a: Int}", "R", true, 1}, {"R", "{}", true, 1}, {"{}", "R", false, 1}, {"{}", "{}", true, 0},
		{"{}", "{a: O}", false, 1}, {"{b: Int}", "{a: O}", false, 1}, {"{a: Int}", "{b: Int}", false, 1}, {"{b: Int}", "{a: Int}", false, 1}, {"{A: Int}", "{a: Int}", false, 1},
		{"{a: I, b: J, c: T}", "{b: Int}", true, 2}, {"{a: I, b: J, c: T}", "{a: Int, c: Text}", true, 3}, {"{a: I, b: J, c: T}", "{a: Int, b: Int, c: Text}", true, 4},
		{"{b: Int, c: Text}", "{c: Opt<Text>}", true, 2}, {"{a: Bool, b: Int, c: Text}", "{c: Int}", false, 2},
		{"{a: Int, b: Text}", "{a: Text, b: Int}", false, 2}, {"{a: {b: Int, c: Int}}", "{a: {}}", true, 2}, {"{a: {}}", "{a: {b: Int, c: Int}}", false, 2},
		{"{a: Int, b: Int, c: Int, d: Int, e: Int, f: Int, g: Int, h: Int}", "{a: Int, b: Int, c: Int, d: Int, e: Int, f: Int, g: Int, h: O}", true, 2},
		{"{a: Int, b: Int, c: Int, d: Int, e: Int, f: Int, g: Int}", "{a: Int, b: Int, c: Int, d: Int, e: Int, f: Int, g: Int, h: O}", false, 1},
	})
}

// P601: each tag of the union is one that is asked; which others are asked counts for nothing.
func TestP601Unions(t *testing.T) {
	wantAll(t, names, []asked{
		{"U", "Union {a: Int}", true, 1}, {"Union {a: Int}", "U", true, 1}, {"U", "Union {a: Int, b: Text}", true, 1}, {"Union {a: Int, b: Text}", "U", false, 1},
		{"Union {a: Int}", "Union {b: Int}", false, 1}, {"Union {b: Int}", "Union {a: Int}", false, 1}, {"Union {A: Int}", "Union {a: Int}", false, 1},
		{"Union {b: I}", "Union {a: Bool, b: J, c: T}", true, 2}, {"Union {a: I, c: Text}", "Union {a: Int, b: J, c: T}", true, 3}, {"Union {c: I}", "Union {a: Int, b: Int, c: Text}", false, 2},
		{"Union {a: {b: Int}}", "Union {a: {}}", true, 2}, {"Union {a: {}}", "Union {a: {b: Int}}", false, 2}, {"U", "{a: Int}", false, 1}, {"R", "Union {a: Int}", false, 1},
		{"Union {a: Union {b: Int}}", "Union {a: Union {b: Int, c: Int}}", true, 2}, {"Union {a: Union {b: Int, c: Int}}", "Union {a: Union {b: Int}}", false, 2},
		{"Union {a: Int, b: Int, c: Int, d: Int, e: Int, f: Int, g: Int, h: Int}", "Union {a: Int, b: Int, c: Int, d: Int, e: Int, f: Int, g: Int, h: O}", true, 2},
		{"Union {a: Int, b: Int, c: Int, d: Int, e: Int, f: Int, g: Int, h: Int}", "Union {a: Int, b: Int, c: Int, d: Int, e: Int, f: Int, g: Int}", false, 1},
	})
}

// P601: kids are gone through by names, each with all below it, and what comes behind the first that does not hold is not opened.
func TestP601Order(t *testing.T) {
	var l []asked
	for _, kind := range []string{"", "Union "} {
		for _, x := range []asked{
			{"{a: I, b: J, c: T}", "{a: Int, b: Int, c: Bool}", false, 4},
			{"{a: I, b: T, c: I}", "{a: Int, b: Int, c: Bool}", false, 3},
			{"{a: T, b: I, c: I}", "{a: Int, b: Int, c: Int}", false, 2},
			{"{a: List<List<I>>, b: T}", "{a: List<List<Int>>, b: Int}", false, 5},
			{"{a: T, b: List<List<I>>}", "{a: Int, b: List<List<Int>>}", false, 2},
			{"{a: List<List<T>>, b: I}", "{a: List<List<Int>>, b: Int}", false, 4},
			{"{a: {b: I, c: T}, b: I}", "{a: {b: Int, c: Int}, b: Int}", false, 4},
			{"{a: {b: I, c: I}, b: T}", "{a: {b: Int, c: Int}, b: Int}", false, 4},
		} {
			l = append(l, asked{kind + x.a, kind + x.b, x.is, x.pairs})
		}
	}
	wantAll(t, names, append(l,
		// A name that lacks is found in its turn: of records those that are asked, of unions those that are there.
		asked{"{a: I, c: I}", "{a: Int, b: Int, c: Int}", false, 2},
		asked{"{b: I, c: I}", "{a: Int, b: Int, c: Int}", false, 1},
		asked{"{a: I, b: J}", "{a: Int, b: Int, c: Int}", false, 3},
		asked{"Union {a: I, b: I, c: I}", "Union {a: Int, c: Int}", false, 2},
		asked{"Union {a: I, b: I, c: I}", "Union {b: Int, c: Int}", false, 1},
		asked{"Union {a: I, b: J, c: I}", "Union {a: Int, b: Int}", false, 3},
	))
}

// P601: what was opened ahead, or is of one number, is passed over; the pair turned round is another one.
func TestP601PassedOver(t *testing.T) {
	wantAll(t, names, []asked{
		{"{a: I, b: I, c: I}", "{a: Int, b: Int, c: Int}", true, 2}, {"{a: I, b: Int}", "{a: Int, b: I}", true, 3}, {"{a: I, b: J}", "{a: Int, b: Int}", true, 3}, {"{a: I, b: I}", "{a: Int, b: O}", true, 3},
		{"{a: List<I>, b: I, c: Text}", "{a: List<Int>, b: Int, c: Text}", true, 3}, {"{a: I, b: List<I>, c: T}", "{a: Int, b: List<Int>, c: Int}", false, 4},
		{"{a: {c: I}, b: {c: I}}", "{a: {c: Int}, b: {c: Int}}", true, 3}, {"{a: O, b: I, c: J}", "{a: Opt<Int>, b: Opt<Int>, c: Opt<Int>}", true, 4},
		{"List<{a: I, b: {a: I}}>", "List<{a: Int, b: {a: Int}}>", true, 4},
		{"{a: {}, b: {}}", "{a: {}}", true, 1}, {"Opt<{a: I}>", "Opt<{a: I}>", true, 0},
	})
}

const within = `data Int;
	type A = {n: Opt<A>, v: Int}; type B = {n: Opt<B>}; type C = {n: Opt<C>, v: Text};
	type D = {n: Opt<E>, v: Int}; type E = {n: Opt<D>, v: Int};
	type F = List<F>; type G = List<H>; type H = List<G>; type K = Map<K>;
	type U = Union {a: List<U>, b: Int}; type V = Union {a: List<V>, b: Opt<Int>, c: Text}; type W = Union {a: List<W>, b: Text};`

// P601: of types within themselves the greatest row: what nothing speaks against holds.
func TestP601Within(t *testing.T) {
	wantAll(t, within, []asked{
		{"A", "A", true, 0}, {"A", "B", true, 2}, {"B", "A", false, 2}, {"A", "C", false, 3}, {"C", "A", false, 3}, {"C", "B", true, 2},
		{"A", "D", true, 4}, {"D", "A", true, 4}, {"D", "E", true, 4}, {"E", "D", true, 4}, {"D", "B", true, 4}, {"B", "D", false, 4},
		{"F", "G", true, 2}, {"G", "F", true, 2}, {"G", "H", true, 2}, {"F", "K", false, 1}, {"List<F>", "G", true, 3}, {"F", "List<F>", true, 1}, {"List<List<F>>", "F", true, 2},
		{"U", "V", true, 3}, {"V", "U", false, 3}, {"U", "W", false, 3}, {"U", "Opt<V>", true, 5}, {"List<U>", "List<V>", true, 3},
		{"{n: Opt<A>, v: Int}", "A", true, 1}, {"A", "{n: Opt<A>, v: Int}", true, 1}, {"{n: A, v: Int}", "A", true, 3}, {"{n: {n: A, v: Int}, v: Int}", "B", true, 7},
	})
}

// ring is so many Lists within each other, parted by so many names; the last is of the first name.
func ring(name string, lists int, named int) string {
	var s strings.Builder
	for i := range named {
		n := lists / named
		if i < lists%named {
			n++
		}
		letter := string(rune('a' + i))
		next := string(rune('a' + (i+1)%named))
		s.WriteString(" type " + name + letter + " = " + strings.Repeat("List<", n) + name + next + strings.Repeat(">", n) + ";")
	}
	return s.String()
}

// P601, P602: rings of lists are gone round till both are where they began.
func TestP602Rings(t *testing.T) {
	for _, x := range [][3]int{{1, 1, 1}, {2, 3, 6}, {4, 6, 12}, {7, 7, 7}, {11, 10, 110}, {53, 54, 2862}, {54, 53, 2862}, {53, 52, 2756}} {
		k := tabled("data Int;" + ring("P", x[0], min(6, x[0])) + ring("Q", x[1], min(6, x[1])))
		a, b := added(k, typed("Pa")), added(k, typed("Qa"))
		wantLe(t, k, a, b, true, x[2])
		wantLe(t, k, b, a, true, x[2])
		wantLe(t, k, a, a, true, 0)
	}
}

// P601, P602: every pair of two rows of records: one goes on, or stays, while the other one goes on.
func TestP602Branches(t *testing.T) {
	var s strings.Builder
	s.WriteString("data Int;")
	for i := range 6 {
		here, next := string(rune('a'+i)), string(rune('a'+(i+1)%6))
		s.WriteString(" type P" + here + " = Opt<{x: P" + next + ", y: P" + here + "}>;")
		s.WriteString(" type Q" + here + " = Opt<{x: Q" + next + ", y: Q" + next + "}>;")
	}
	k := tabled(s.String())
	a, b := added(k, typed("Pa")), added(k, typed("Qa"))
	wantLe(t, k, a, b, true, 72)
	wantLe(t, k, b, a, true, 72)
}

// P601: numbers that are no type's.
func TestP601None(t *testing.T) {
	for _, s := range []string{"data Int;", names, within} {
		k := tabled(s)
		n := k.Len()
		for _, x := range []int{-1, -2, -n, n, n + 1, 120, 1 << 31, 1 << 32, 1<<63 - 1, -1 << 31, -1 << 32, -1 << 63} {
			for _, y := range []int{x, 0, n - 1, -1, n} {
				if is, pairs := Le(k, x, y); is || pairs != 0 {
					t.Errorf("%d, %d: %v, %d", x, y, is, pairs)
				}
				if is, pairs := Le(k, y, x); is || pairs != 0 {
					t.Errorf("%d, %d: %v, %d", y, x, is, pairs)
				}
			}
		}
		wantLe(t, k, n-1, n-1, true, 0)
	}
	if is, pairs := Le(&cons.Table{}, 0, 0); is || pairs != 0 {
		t.Errorf("%v, %d", is, pairs)
	}
}
