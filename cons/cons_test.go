package cons

import (
	"slices"
	"strconv"
	"strings"
	"testing"

	"sprue/api"
	"sprue/sch"
)

var (
	tInt  = api.Type{Kind: api.TInt}
	empty = api.Type{Kind: api.TRec}
)

func of(kind int, kids ...api.Type) api.Type { return api.Type{Kind: kind, Kids: kids} }

func called(name string) api.Type { return api.Type{Kind: api.TName, Name: name} }

// fields is a record, or a union, of names (parted by blanks) and types.
func fields(kind int, names string, kids ...api.Type) api.Type {
	return api.Type{Kind: kind, Names: strings.Fields(names), Kids: kids}
}

// typed is the type that is written so.
func typed(s string) api.Type {
	x, e := sch.Type(s)
	if e != api.OK {
		panic(s + ": " + e.Error())
	}
	return x
}

func parsed(s string) api.Schema {
	x, e := sch.Parse(s)
	if e != api.OK {
		panic(s + ": " + e.Error())
	}
	return x
}

// tabled is the table of the schema that is written so.
func tabled(s string) *Table {
	x, e := New(parsed(s))
	if e != api.OK {
		panic(s + ": " + e.Error())
	}
	return x
}

// fresh is a table of {}, A and Opt<{}>, where A is {}, B is A, and O is Opt<{}>.
func fresh() *Table { return tabled("data {}; type A = {}; type B = A; type O = Opt<{}>;") }

// wantTypes fails unless the table has just those types, parted by line feeds, in order.
func wantTypes(t *testing.T, x *Table, want string) {
	t.Helper()
	var got []string
	for i := range x.Len() {
		got = append(got, sch.TypeText(x.Type(i)))
	}
	if s := strings.Join(got, "\n"); s != want {
		t.Errorf("types are\n%s\nnot\n%s", s, want)
	}
}

// wantAdd fails unless that type is answered that number, and error.
func wantAdd(t *testing.T, x *Table, k api.Type, want int, wantError api.Errno) {
	t.Helper()
	if id, e := x.Add(k); id != want || e != wantError {
		t.Errorf("%.200s: %d, %v, not %d, %v", sch.TypeText(k), id, e, want, wantError)
	}
}

func wantOpt(t *testing.T, x *Table, id, want int, wantError api.Errno) {
	t.Helper()
	if got, e := x.Opt(id); got != want || e != wantError {
		t.Errorf("Opt of %d: %d, %v, not %d, %v", id, got, e, want, wantError)
	}
}

func wantBase(t *testing.T, x *Table, kind, want int, wantError api.Errno) {
	t.Helper()
	if got, e := x.Base(kind); got != want || e != wantError {
		t.Errorf("base of %d: %d, %v, not %d, %v", kind, got, e, want, wantError)
	}
}

// wantOpen fails unless each number, from 0 on, opened, is the one at its place, and there are no others.
func wantOpen(t *testing.T, x *Table, want ...int) {
	t.Helper()
	for id, w := range want {
		if got, ok := x.Open(id); !ok || got != w {
			t.Errorf("open %d: %d, %v, not %d", id, got, ok, w)
		}
	}
	if x.Len() != len(want) {
		t.Errorf("%d types, not %d", x.Len(), len(want))
	}
}

// numbered is a name that stands behind the ones with lower numbers.
func numbered(name string, i int) string { return name + strconv.Itoa(1000+i) }

// single is a record of one {}, of that number's name.
func single(i int) api.Type { return fields(api.TRec, numbered("f", i), empty) }

// filled is a table that has so many types: {}, then those of single.
func filled(t *testing.T, n int) *Table {
	t.Helper()
	x := tabled("data {};")
	for i := 1; i < n; i++ {
		wantAdd(t, x, single(i), i, api.OK)
	}
	return x
}

func TestExample(t *testing.T) {
	x := tabled("data Int;")
	if x.Len() != 1 || x.Main() != 0 {
		t.Errorf("%d types, %d", x.Len(), x.Main())
	}
}

// P501: kids first, in order, from within; each type once.
func TestP501Order(t *testing.T) {
	x := fresh()
	wantTypes(t, x, "{}\nA\nOpt<{}>")
	whole := typed("{b: List<Text>, a: Map<Opt<Int>>, c: Text, d: Union {y: Bool, x: {a: A}}}")
	wantAdd(t, x, whole, 11, api.OK)
	all := strings.Fields("{} A Opt<{}> Int Opt<Int> Map<Opt<Int>> Text List<Text> {a:A} Bool Union{x:{a:A},y:Bool}")
	for i, s := range all {
		wantAdd(t, x, typed(s), i, api.OK)
		all[i] = sch.TypeText(typed(s))
	}
	wantTypes(t, x, strings.Join(append(all, sch.TypeText(whole)), "\n"))
	wantAdd(t, x, whole, 11, api.OK)
	wantAdd(t, x, of(api.TList, whole), 12, api.OK)
	wantAdd(t, x, fields(api.TRec, "a b c", whole, tInt, typed("{e: Text, f: Map<Text>}")), 15, api.OK)
	wantAdd(t, x, typed("Map<Text>"), 13, api.OK)
	if x.Len() != 16 {
		t.Errorf("%d types", x.Len())
	}
}

// P501: a type that stands twice in one that is added is there once.
func TestP501Twice(t *testing.T) {
	x := tabled("data {a: List<Int>, b: {c: List<Int>, d: Int}, e: Union {c: List<Int>, d: Int}, f: {c: List<Int>, d: Int}};")
	wantTypes(t, x, "Int\nList<Int>\n{c: List<Int>, d: Int}\nUnion {c: List<Int>, d: Int}\n"+
		"{a: List<Int>, b: {c: List<Int>, d: Int}, e: Union {c: List<Int>, d: Int}, f: {c: List<Int>, d: Int}}")
	if x.Main() != 4 {
		t.Errorf("Main: %d", x.Main())
	}
}

// wantNode fails unless a number's node is that one, and its type that tree.
func wantNode(t *testing.T, x *Table, id int, want Node, tree string) {
	t.Helper()
	n, ok := x.Node(id)
	if !ok || n.Kind != want.Kind || n.Name != want.Name || !slices.Equal(n.Names, want.Names) || !slices.Equal(n.Kids, want.Kids) {
		t.Errorf("node %d: %+v, %v, not %+v", id, n, ok, want)
	}
	if got := x.Type(id); !sch.Same(got, typed(tree)) {
		t.Errorf("type %d: %+v, not %s", id, got, tree)
	}
}

// P501: what is told of a number, of each kind.
func TestP501Node(t *testing.T) {
	x := fresh()
	for i, s := range strings.Fields("Bool Int Text List<Int> Map<Int> Opt<Int> {a:Text} {a:Int,b:List<Int>,c:Int} Union{a:Text} Union{a:Int,b:List<Int>} B O") {
		wantAdd(t, x, typed(s), 3+i, api.OK)
	}
	abc := []string{"a", "b", "c"}
	wantNode(t, x, 0, Node{Kind: api.TRec}, "{}")
	wantNode(t, x, 1, Node{Kind: api.TName, Name: "A"}, "A")
	wantNode(t, x, 2, Node{Kind: api.TOpt, Kids: []int{0}}, "Opt<{}>")
	wantNode(t, x, 3, Node{Kind: api.TBool}, "Bool")
	wantNode(t, x, 4, Node{Kind: api.TInt}, "Int")
	wantNode(t, x, 5, Node{Kind: api.TText}, "Text")
	wantNode(t, x, 6, Node{Kind: api.TList, Kids: []int{4}}, "List<Int>")
	wantNode(t, x, 7, Node{Kind: api.TMap, Kids: []int{4}}, "Map<Int>")
	wantNode(t, x, 8, Node{Kind: api.TOpt, Kids: []int{4}}, "Opt<Int>")
	wantNode(t, x, 9, Node{Kind: api.TRec, Names: abc[:1], Kids: []int{5}}, "{a: Text}")
	wantNode(t, x, 10, Node{Kind: api.TRec, Names: abc, Kids: []int{4, 6, 4}}, "{a: Int, b: List<Int>, c: Int}")
	wantNode(t, x, 11, Node{Kind: api.TUnion, Names: abc[:1], Kids: []int{5}}, "Union {a: Text}")
	wantNode(t, x, 12, Node{Kind: api.TUnion, Names: abc[:2], Kids: []int{4, 6}}, "Union {a: Int, b: List<Int>}")
	wantNode(t, x, 13, Node{Kind: api.TName, Name: "B"}, "B")
	wantNode(t, x, 14, Node{Kind: api.TName, Name: "O"}, "O")
	wantOpen(t, x, 0, 0, 2, 3, 4, 5, 6, 7, 8, 9, 10, 11, 12, 0, 2)
}

// P501: up to eight fields, of long names.
func TestP501Wide(t *testing.T) {
	x := fresh()
	for _, kind := range []int{api.TRec, api.TUnion} {
		var k api.Type
		for n := range 9 {
			k = api.Type{Kind: kind}
			for i := range n {
				k.Names = append(k.Names, "abcdefghijklmno"+string(rune('a'+i)))
				k.Kids = append(k.Kids, []api.Type{empty, tInt, called("A")}[i%3])
			}
			if n == 0 && kind == api.TUnion {
				continue
			}
			id, e := x.Add(k)
			if got := x.Type(id); e != api.OK || !sch.Same(got, k) {
				t.Errorf("%d: %v: %+v", n, e, got)
			}
		}
		got, _ := x.Node(x.Len() - 1)
		if !slices.Equal(got.Names, k.Names) || !slices.Equal(got.Kids, []int{0, 4, 1, 0, 4, 1, 0, 4}) {
			t.Errorf("%+v", got)
		}
	}
}

// wantNone fails unless there is no type of that number.
func wantNone(t *testing.T, x *Table, id int) {
	t.Helper()
	n, ok := x.Node(id)
	if ok || n.Kind != 0 || n.Name != "" || len(n.Names)+len(n.Kids) != 0 {
		t.Errorf("node %d: %+v, %v", id, n, ok)
	}
	if k := x.Type(id); !sch.Same(k, api.Type{}) {
		t.Errorf("type %d: %+v", id, k)
	}
	if o, ok := x.Open(id); ok || o != 0 {
		t.Errorf("open %d: %d, %v", id, o, ok)
	}
}

// P501, P502: numbers that are no type's.
func TestP501None(t *testing.T) {
	full := filled(t, 120)
	for _, x := range []*Table{fresh(), tabled("data Int;"), full} {
		n := x.Len()
		for _, id := range []int{n, n + 1, 121, 1 << 20, 1 << 31, 1 << 32, 1<<32 + 1, 1<<63 - 1, -1, -2, -n, -1 << 31, -1 << 32, -1 << 63} {
			wantNone(t, x, id)
		}
		if x.Len() != n {
			t.Errorf("%d types, not %d", x.Len(), n)
		}
	}
}

// P501: Opts of any type, of an Opt too, and of a name of one.
func TestP501Opt(t *testing.T) {
	x := fresh()
	wantOpt(t, x, 0, 2, api.OK)
	wantOpt(t, x, 2, 3, api.OK)
	wantOpt(t, x, 3, 4, api.OK)
	wantOpt(t, x, 2, 3, api.OK)
	wantOpt(t, x, 1, 5, api.OK)
	wantAdd(t, x, called("O"), 6, api.OK)
	wantOpt(t, x, 6, 7, api.OK)
	wantTypes(t, x, "{}\nA\nOpt<{}>\nOpt<Opt<{}>>\nOpt<Opt<Opt<{}>>>\nOpt<A>\nO\nOpt<O>")
	wantOpen(t, x, 0, 0, 2, 3, 4, 5, 2, 7)
	wantAdd(t, x, typed("Opt<Opt<{}>>"), 3, api.OK)
	wantAdd(t, x, typed("Opt<O>"), 7, api.OK)
	wantAdd(t, x, typed("Opt<B>"), 9, api.OK)
	wantOpt(t, x, 8, 9, api.OK)
	wantAdd(t, x, typed("Opt<Opt<Opt<Opt<Int>>>>"), 14, api.OK)
	wantNode(t, x, 14, Node{Kind: api.TOpt, Kids: []int{13}}, "Opt<Opt<Opt<Opt<Int>>>>")
}

// P501: types of no parts.
func TestP501Base(t *testing.T) {
	x := fresh()
	for i, kind := range []int{api.TText, api.TBool, api.TInt, api.TText, api.TInt, api.TBool} {
		want := []int{3, 4, 5, 3, 5, 4}[i]
		wantBase(t, x, kind, want, api.OK)
		wantAdd(t, x, api.Type{Kind: kind}, want, api.OK)
	}
	wantTypes(t, x, "{}\nA\nOpt<{}>\nText\nBool\nInt")
	x = tabled("data {a: Bool, b: Text, c: Int};")
	wantBase(t, x, api.TBool, 0, api.OK)
	wantBase(t, x, api.TText, 1, api.OK)
	wantBase(t, x, api.TInt, 2, api.OK)
	if x.Len() != 4 {
		t.Errorf("%d types", x.Len())
	}
}

// P501: as many types as may be; then only what is there is answered.
func TestP501Big(t *testing.T) {
	x := filled(t, 119)
	wantOpt(t, x, 0, 119, api.OK)
	for range 3 {
		for _, k := range []api.Type{tInt, single(119), of(api.TList, empty), of(api.TMap, tInt), of(api.TOpt, single(5)), fields(api.TUnion, "f1001", empty), fields(api.TRec, "a b", empty, empty)} {
			wantAdd(t, x, k, 0, api.ErrBig)
		}
		for _, kind := range []int{api.TBool, api.TInt, api.TText} {
			wantBase(t, x, kind, 0, api.ErrBig)
		}
		for id := 1; id < 120; id++ {
			wantOpt(t, x, id, 0, api.ErrBig)
		}
		wantOpt(t, x, 0, 119, api.OK)
		wantAdd(t, x, of(api.TOpt, empty), 119, api.OK)
		wantAdd(t, x, empty, 0, api.OK)
		for i := 1; i < 119; i++ {
			wantAdd(t, x, single(i), i, api.OK)
		}
		if x.Len() != 120 || x.Main() != 0 {
			t.Fatalf("%d types", x.Len())
		}
	}
}

// P501: what was added ahead of ErrBig stays.
func TestP501BigStays(t *testing.T) {
	k := typed("{a: {x: List<Int>, y: Text}, b: Bool, c: {f1001: {}}}")
	order := strings.Fields("Int List<Int> Text {x:List<Int>,y:Text} Bool")
	for room := range 8 {
		x := filled(t, 120-room)
		if room < 6 {
			wantAdd(t, x, k, 0, api.ErrBig)
		} else {
			wantAdd(t, x, k, 125-room, api.OK)
		}
		if want := min(120, 126-room); x.Len() != want {
			t.Errorf("%d types, not %d", x.Len(), want)
		}
		for i, s := range order {
			if i < room {
				wantAdd(t, x, typed(s), 120-room+i, api.OK)
			} else {
				wantAdd(t, x, typed(s), 0, api.ErrBig)
			}
		}
	}
}

// nested is a type within so many Lists.
func nested(n int, x api.Type) api.Type {
	for range n {
		x = of(api.TList, x)
	}
	return x
}

// P501: types may be deeper than those of a schema, as deep as there is room.
func TestP501Deep(t *testing.T) {
	x := tabled("data {};")
	for _, n := range []int{11, 12, 13, 14, 20, 100, 119} {
		wantAdd(t, x, nested(n, empty), n, api.OK)
	}
	if !sch.Same(x.Type(119), nested(119, empty)) {
		t.Error("119 is another one")
	}
	for _, n := range []int{120, 121, 399} {
		wantAdd(t, x, nested(n, empty), 0, api.ErrBig)
		y := tabled("data {};")
		wantAdd(t, y, nested(n, empty), 0, api.ErrBig)
		if y.Len() != 120 || !sch.Same(y.Type(119), nested(119, empty)) {
			t.Errorf("%d types", y.Len())
		}
	}
	wantAdd(t, x, nested(50, empty), 50, api.OK)
}

// sized is a type of just so many types in all.
func sized(n int) api.Type {
	if n == 1 {
		return tInt
	}
	x := api.Type{Kind: api.TRec}
	for i := range min(8, n-1) {
		x.Names = append(x.Names, numbered("f", i))
		x.Kids = append(x.Kids, sized((n-1+i)/min(8, n-1)))
	}
	return x
}

func size(x api.Type) int {
	n := 1
	for _, k := range x.Kids {
		n += size(k)
	}
	return n
}

// P501: as many types in one as may be, also where a schema has as many.
func TestP501ManyInOne(t *testing.T) {
	for _, n := range []int{2, 9, 10, 73, 74, 200, 398, 399, 400} {
		x := fresh()
		k := sized(n)
		if size(k) != n {
			t.Fatalf("%d are %d", n, size(k))
		}
		id, e := x.Add(k)
		if e != api.OK || id != x.Len()-1 || !sch.Same(x.Type(id), k) {
			t.Errorf("%d: %d, %v", n, id, e)
		}
		wantAdd(t, x, k, id, api.OK)
		y, e := New(api.Schema{Main: k})
		if e != api.OK || y.Main() != y.Len()-1 {
			t.Fatalf("%d: %v", n, e)
		}
		wantAdd(t, y, k, y.Main(), api.OK)
		// An Opt of it is of more types: Type tells it all the same.
		o, e := x.Opt(id)
		if e != api.OK || !sch.Same(x.Type(o), of(api.TOpt, k)) {
			t.Errorf("%d: Opt: %d, %v", n, o, e)
		}
	}
}

// P502: first what named types stand for, then Main, then of each function the Params, the Result.
func TestP502Order(t *testing.T) {
	x := tabled("data Map<Int>; type C = Text; type A = {a: C}; type B = List<B>; fn g(Map<Bool>, Text) -> List<Int>; fn f(Opt<Map<Int>>, B) -> {b: Int};")
	wantTypes(t, x, strings.Join([]string{
		"C", "{a: C}", "B", "List<B>", "Text", "Int", "Map<Int>",
		"Opt<Map<Int>>", "{b: Int}", "Bool", "Map<Bool>", "List<Int>",
	}, "\n"))
	wantOpen(t, x, 4, 1, 3, 3, 4, 5, 6, 7, 8, 9, 10, 11)
	if x.Main() != 6 {
		t.Errorf("Main: %d", x.Main())
	}
	wantSig(t, x, "f", []int{7, 2}, 8)
	wantSig(t, x, "g", []int{10, 4}, 11)
}

func wantSig(t *testing.T, x *Table, name string, params []int, result int) {
	t.Helper()
	p, r, ok := x.Sig(name)
	if !ok || r != result || !slices.Equal(p, params) {
		t.Errorf("%s: %v, %d, %v, not %v, %d", name, p, r, ok, params, result)
	}
}

// P502: functions of no Params and of as many as may be; and names that none has.
func TestP502Sig(t *testing.T) {
	x := tabled("data Int; type A = Int; fn a() -> Int; fn b(A, Int, A, Text) -> A; fn A(A) -> Text; fn abcdefghijklmnop(Int) -> Int;")
	wantTypes(t, x, "Int\nA\nText")
	wantSig(t, x, "a", nil, 0)
	wantSig(t, x, "b", []int{1, 0, 1, 2}, 1)
	wantSig(t, x, "A", []int{1}, 2)
	wantSig(t, x, "abcdefghijklmnop", []int{0}, 0)
	for _, n := range []string{"", "c", "ab", "B", "len", "Int", "a ", "abcdefghijklmno", "abcdefghijklmnopq", "\xff"} {
		for _, y := range []*Table{x, fresh(), tabled("data Int;")} {
			if p, r, ok := y.Sig(n); ok || len(p) != 0 || r != 0 {
				t.Errorf("%q: %v, %d, %v", n, p, r, ok)
			}
		}
	}
}

// P502: a name stands for a type, and is another one; two names of one type are two.
func TestP502Names(t *testing.T) {
	x := tabled("data {a: A, b: B}; type A = Int; type B = Int;")
	wantTypes(t, x, "Int\nA\nB\n{a: A, b: B}")
	wantOpen(t, x, 0, 0, 0, 3)
	wantAdd(t, x, typed("{a: A, b: A}"), 4, api.OK)
	wantAdd(t, x, typed("{a: Int, b: Int}"), 5, api.OK)
	// A name that no type asked for yet.
	x = tabled("data Text; type A = Int;")
	wantTypes(t, x, "Int\nText")
	wantAdd(t, x, called("A"), 2, api.OK)
	wantOpen(t, x, 0, 1, 0)
	// Named types that stand for themselves, but within others.
	x = tabled("data A; type A = Union {a: List<B>, b: A, c: Int}; type B = {a: Opt<A>, b: Map<B>};")
	wantTypes(t, x, "B\nList<B>\nA\nInt\nUnion {a: List<B>, b: A, c: Int}\nOpt<A>\nMap<B>\n{a: Opt<A>, b: Map<B>}")
	wantOpen(t, x, 7, 1, 4, 3, 4, 5, 6, 7)
}

// P502: names of names, as many as there may be, forth and back.
func TestP502LongChains(t *testing.T) {
	forth, back := api.Schema{Main: tInt}, api.Schema{Main: tInt}
	for i := range 12 {
		forth.Types = append(forth.Types, api.Named{Name: numbered("A", i), T: called(numbered("A", i+1))})
		back.Types = append(back.Types, api.Named{Name: numbered("A", i), T: called(numbered("A", i-1))})
	}
	forth.Types[11].T, back.Types[0].T = typed("Map<A1000>"), typed("List<A1011>")
	for _, s := range []api.Schema{forth, back} {
		x, e := New(s)
		if e != api.OK || x.Len() != 14 {
			t.Fatal(e)
		}
		for i := range 12 {
			id, _ := x.Add(called(numbered("A", i)))
			o, ok := x.Open(id)
			n, _ := x.Node(o)
			if !ok || n.Kind != api.TMap && n.Kind != api.TList {
				t.Errorf("%d: %d: %+v", i, o, n)
			}
			if again, ok := x.Open(o); !ok || again != o {
				t.Errorf("%d: %d, %v", o, again, ok)
			}
		}
	}
}

// P502: errors of schemas, and no table beside them.
func TestP502Errors(t *testing.T) {
	for s, want := range map[string]api.Errno{
		"data A;":                                         api.ErrName,
		"data A; type A = A;":                             api.ErrLoop,
		"data A; type A = {a: A};":                        api.ErrLoop,
		"data Opt<Opt<Int>>;":                             api.ErrType,
		"data Opt<A>; type A = Opt<Int>;":                 api.ErrType,
		"data Int; fn len() -> Int;":                      api.ErrName,
		"data Int; fn f(Int, Int, Int, Int, Int) -> Int;": api.ErrArgs,
		"data Int; fn f() -> A;":                          api.ErrName,
		"data Union {};":                                  api.ErrForm,
		"data {a: Int, b: Int, c: Int, d: Int, e: Int, f: Int, g: Int, h: Int, i: Int};": api.ErrMany,
	} {
		wantError(t, parsed(s), want)
	}
	wantError(t, api.Schema{}, api.ErrArg)
	wantError(t, api.Schema{Main: nested(12, tInt)}, api.ErrDeep)
	wantError(t, api.Schema{Main: sized(401)}, api.ErrMany)
	wantError(t, api.Schema{Main: tInt, Types: make([]api.Named, 13)}, api.ErrMany)
	wantError(t, api.Schema{Main: of(api.TList)}, api.ErrForm)
	wantError(t, api.Schema{Main: fields(api.TRec, "b a", tInt, tInt)}, api.ErrIs)
}

func wantError(t *testing.T, s api.Schema, want api.Errno) {
	t.Helper()
	if x, e := New(s); e != want || x != nil {
		t.Errorf("%.200s: %v, not %v", sch.Text(s), e, want)
	}
}

// P502: schemas of as many types as may be, and of one more, wherever that one stands.
func TestP502Big(t *testing.T) {
	var s api.Schema
	for i := range 12 {
		n := api.Named{Name: numbered("T", i), T: empty}
		for k := range 8 {
			n.T.Names = append(n.T.Names, numbered("f", k))
			n.T.Kids = append(n.T.Kids, fields(api.TRec, numbered("q", 8*i+k), empty))
		}
		s.Types = append(s.Types, n)
	}
	s.Main = empty // 12 * 9 + 1
	for i := range 10 {
		s.Sigs = append(s.Sigs, api.Sig{Name: numbered("f", i), Params: []api.Type{empty, single(i)}, Result: single(max(i-1, 0))})
	}
	x, e := New(s)
	if e != api.OK || x.Len() != 119 {
		t.Fatalf("%v", e)
	}
	s.Sigs[9].Result = tInt
	if x, e = New(s); e != api.OK || x.Len() != 120 || x.Main() != 0 {
		t.Fatalf("%v", e)
	}
	wantSig(t, x, "f1009", []int{0, 118}, 119)
	more := s
	more.Main = api.Type{Kind: api.TText}
	wantError(t, more, api.ErrBig)
	more = s
	more.Types = slices.Clone(s.Types)
	more.Types[11].T = of(api.TMap, s.Types[11].T)
	wantError(t, more, api.ErrBig)
	more = s
	more.Sigs = slices.Clone(s.Sigs)
	more.Sigs[0].Result = api.Type{Kind: api.TBool}
	wantError(t, more, api.ErrBig)
	more.Sigs[0] = api.Sig{Name: "f1000", Params: []api.Type{empty, of(api.TOpt, empty), single(0)}, Result: empty}
	wantError(t, more, api.ErrBig)
	// What shape.Check finds comes ahead.
	more.Sigs[0].Result = called("X")
	wantError(t, more, api.ErrName)
}
