package shape

import (
	"strconv"
	"strings"
	"testing"

	"sprue/api"
	"sprue/sch"
)

const builtins = "len not and or eq lt add sub mul shl shr i8 i16 i32 u8 u16 u32 cat text at get has orelse"

var (
	tInt = api.Type{Kind: api.TInt}
	// bad is refused wherever it stands, but where something ahead of it is refused first.
	bad = api.Type{Kind: 10}
	// nobody is likewise, with another error.
	nobody = called("Nobody")
)

func of(kind int, kids ...api.Type) api.Type { return api.Type{Kind: kind, Kids: kids} }

func called(name string) api.Type { return api.Type{Kind: api.TName, Name: name} }

// fields is a record, or a union, of names (parted by blanks) and types.
func fields(kind int, names string, kids ...api.Type) api.Type {
	return api.Type{Kind: kind, Names: strings.Fields(names), Kids: kids}
}

// wide is a record, or a union, of so many fields of a type.
func wide(kind, n int, kid api.Type) api.Type {
	x := api.Type{Kind: kind}
	for i := range n {
		x.Names = append(x.Names, numbered("f", i))
		x.Kids = append(x.Kids, kid)
	}
	return x
}

// numbered is a name that stands behind the ones with lower numbers.
func numbered(name string, i int) string {
	return name + strconv.Itoa(1000+i)
}

// typed is the type that is written so.
func typed(s string) api.Type {
	x, e := sch.Type(s)
	if e != api.OK {
		panic(s + ": " + e.Error())
	}
	return x
}

func parsed(s string) api.Schema {
	x, e := sch.Parse(s)
	if e != api.OK {
		panic(s + ": " + e.Error())
	}
	return x
}

// named is named types, each an Int, by names parted by blanks.
func named(names string) []api.Named {
	var l []api.Named
	for _, n := range strings.Fields(names) {
		l = append(l, api.Named{Name: n, T: tInt})
	}
	return l
}

// sigs is functions without parameters, by names parted by blanks.
func sigs(names string) []api.Sig {
	var l []api.Sig
	for _, n := range strings.Fields(names) {
		l = append(l, api.Sig{Name: n, Result: tInt})
	}
	return l
}

func wantCheck(t *testing.T, s api.Schema, want api.Errno) {
	t.Helper()
	if e := Check(s); e != want {
		t.Errorf("%.200q: %v, not %v", sch.Text(s), e, want)
	}
}

// wantSource is wantCheck of a source.
func wantSource(t *testing.T, s string, want api.Errno) {
	t.Helper()
	wantCheck(t, parsed(s), want)
}

// places are schemas in each of which that type stands by itself; A, O and T are named types of them.
func places(x api.Type) []api.Schema {
	types := []api.Named{{Name: "A", T: tInt}, {Name: "O", T: of(api.TOpt, tInt)}, {Name: "T", T: typed("{a: A, o: O}")}}
	main := func(m api.Type, types []api.Named, l ...api.Sig) api.Schema {
		return api.Schema{Main: m, Types: types, Sigs: l}
	}
	return []api.Schema{
		main(x, types),
		main(tInt, []api.Named{types[0], types[1], {Name: "T", T: x}}),
		main(tInt, []api.Named{types[0], types[1], types[2], {Name: "a", T: x}, {Name: "b", T: tInt}}),
		main(tInt, types, api.Sig{Name: "f", Params: []api.Type{x}, Result: tInt}),
		main(tInt, types, api.Sig{Name: "f", Params: []api.Type{tInt, x, tInt}, Result: tInt}),
		main(tInt, types, api.Sig{Name: "f", Params: []api.Type{tInt, tInt, tInt, x}, Result: tInt}),
		main(tInt, types, api.Sig{Name: "f", Result: x}),
		main(tInt, types, api.Sig{Name: "e", Result: tInt}, api.Sig{Name: "f", Params: []api.Type{tInt}, Result: x}, api.Sig{Name: "g", Result: tInt}),
	}
}

// wantType fails unless schemas where that type stands are answered so, wherever it stands.
func wantType(t *testing.T, x api.Type, want api.Errno) {
	t.Helper()
	for i, s := range places(x) {
		if e := Check(s); e != want {
			t.Errorf("%.200q at %d: %v, not %v", sch.TypeText(x), i, e, want)
		}
	}
}

// wantWithin is wantType, also of lists, maps, records and unions of it.
func wantWithin(t *testing.T, x api.Type, want api.Errno) {
	t.Helper()
	for _, y := range []api.Type{x, of(api.TList, x), of(api.TMap, x), fields(api.TRec, "a b c", tInt, x, tInt), fields(api.TUnion, "a b", tInt, x), of(api.TOpt, fields(api.TRec, "a", of(api.TMap, x)))} {
		wantType(t, y, want)
	}
}

func TestP401Builtin(t *testing.T) {
	all := strings.Fields(builtins)
	for _, name := range all {
		if !Builtin(name) {
			t.Errorf("%s is none", name)
		}
		for _, other := range []string{strings.ToUpper(name), strings.ToUpper(name[:1]) + name[1:], name + " ", " " + name, name + "_", "_" + name, name + "\x00", name + name, name + " " + name} {
			if Builtin(other) {
				t.Errorf("%q is one", other)
			}
		}
	}
	for _, name := range []string{"", " ", "i64", "u64", "i", "u", "div", "mod", "neg", "gt", "le", "ge", "ne", "print", "index", "Int", "Text", "List", "data", "type", "fn", "range", "else", "end", "\xff", builtins} {
		if Builtin(name) {
			t.Errorf("%q is one", name)
		}
	}
}

// P401: every short text.
func TestP401EveryShortText(t *testing.T) {
	const signs = "abcdefghijklmnopqrstuvwxyz0123456789_ ALT"
	all := map[string]int{}
	for _, name := range strings.Fields(builtins) {
		all[name] = 1
	}
	found := 0
	for n := range len(signs) * len(signs) * len(signs) {
		k := len(signs)
		for _, s := range []string{signs[n%k : n%k+1], signs[n%k:n%k+1] + signs[n/k%k:n/k%k+1], signs[n%k:n%k+1] + signs[n/k%k:n/k%k+1] + signs[n/k/k:n/k/k+1]} {
			if Builtin(s) != (all[s] == 1) {
				t.Errorf("%q: %v", s, Builtin(s))
			}
		}
		found += all[signs[n%k:n%k+1]+signs[n/k%k:n/k%k+1]+signs[n/k/k:n/k/k+1]]
	}
	if found != 15 {
		t.Errorf("%d of three letters", found)
	}
}

func TestP402Ordinary(t *testing.T) {
	wantSource(t, "data Int;", api.OK)
	wantSource(t, "data {a: Text, b: List<Int>, c: Map<Opt<Bool>>, d: Union {x: Int, y: {}}};", api.OK)
	wantSource(t, "data A; type A = {next: Opt<A>}; type B = List<A>; fn f(A, B) -> Opt<A>; fn g() -> Text;", api.OK)
	wantCheck(t, api.Schema{}, api.ErrArg)
	wantCheck(t, api.Schema{Main: tInt}, api.OK)
	wantCheck(t, api.Schema{Main: tInt, Types: []api.Named{}, Sigs: []api.Sig{}}, api.OK)
	wantCheck(t, api.Schema{Main: api.Type{Kind: api.TInt, Names: []string{}, Kids: []api.Type{}}}, api.OK)
}

// P402: as many named types, and functions, as may be, and one more; too many comes ahead of all others.
func TestP402ManyNames(t *testing.T) {
	for n := range 40 {
		want := api.OK
		if n > 12 {
			want = api.ErrMany
		}
		var types []api.Named
		var l []api.Sig
		for i := range n {
			types = append(types, api.Named{Name: numbered("A", i), T: tInt})
			l = append(l, api.Sig{Name: numbered("f", i), Result: tInt})
		}
		wantCheck(t, api.Schema{Main: tInt, Types: types}, want)
		wantCheck(t, api.Schema{Main: tInt, Sigs: l}, want)
		wantCheck(t, api.Schema{Main: tInt, Types: types, Sigs: l}, want)
	}
	wantCheck(t, api.Schema{Types: make([]api.Named, 13)}, api.ErrMany)
	wantCheck(t, api.Schema{Sigs: make([]api.Sig, 13)}, api.ErrMany)
	wantCheck(t, api.Schema{Types: make([]api.Named, 12), Sigs: make([]api.Sig, 13)}, api.ErrMany)
	wantCheck(t, api.Schema{Types: make([]api.Named, 12), Sigs: make([]api.Sig, 12)}, api.ErrName)
	wantCheck(t, api.Schema{Main: bad, Sigs: make([]api.Sig, 1<<16)}, api.ErrMany)
}

// notNames are texts that are no names.
var notNames = []string{"", "1", "1a", "a b", " a", "a ", "a-b", "a.b", "$a", "é", "a\x00", "\xff", "a\n", "abcdefghijklmnopq", strings.Repeat("a", 1<<16), "List<Int>"}

func TestP402TypeNames(t *testing.T) {
	for _, n := range append(strings.Fields("Bool Int Text List Map Opt Union"), notNames...) {
		wantCheck(t, api.Schema{Main: tInt, Types: []api.Named{{Name: n, T: tInt}}}, api.ErrName)
		wantCheck(t, api.Schema{Main: bad, Types: []api.Named{{Name: "A", T: bad}, {Name: n, T: bad}}}, api.ErrName)
	}
	for _, n := range strings.Fields("a A _ a1 _1 bool int text list map opt union BOOL Boolean Ints Record Rec data type fn len orelse abcdefghijklmnop " + builtins) {
		wantCheck(t, api.Schema{Main: called(n), Types: []api.Named{{Name: n, T: tInt}}}, api.OK)
	}
}

// P402: names of functions; those of types are none that a function may not have.
func TestP402FunctionNames(t *testing.T) {
	for _, n := range append(strings.Fields(builtins), notNames...) {
		wantCheck(t, api.Schema{Main: tInt, Sigs: []api.Sig{{Name: n, Result: tInt}}}, api.ErrName)
		wantCheck(t, api.Schema{Main: tInt, Sigs: []api.Sig{{Name: "_", Result: tInt}, {Name: n, Result: bad}}}, api.ErrName)
	}
	for _, n := range strings.Fields("Bool Int Text List Map Opt Union A a _ _1 a1 abcdefghijklmnop data type fn Len lens i64 not_") {
		wantCheck(t, api.Schema{Main: tInt, Types: named("A"), Sigs: []api.Sig{{Name: n, Result: tInt}}}, api.OK)
	}
}

// rows are rows of names and whether each of them stands behind the one ahead.
var rows = []struct {
	names string
	rises bool
}{
	{"A B", true}, {"B A", false}, {"A A", false}, {"A A1", true}, {"A1 A", false}, {"A a", true}, {"a A", false}, {"A _ a", true}, {"Z _", true}, {"_ Z", false}, {"_ a", true}, {"a _", false}, {"_ _1 _A __ _a", true}, {"_ _a __", false}, {"B1 B10 B2", true}, {"B2 B10", false}, {"AA B", true}, {"B AA", false},
	{"A B C", true}, {"A C B", false}, {"B A C", false}, {"A B B", false}, {"A A B", false}, {"A C A", false}, {"abcdefghijklmno abcdefghijklmnop", true}, {"abcdefghijklmnop abcdefghijklmno", false}, {"ab abc abcd", true},
}

// P402: names rise, byte by byte: of types, functions, records and unions.
func TestP402NamesRise(t *testing.T) {
	for _, x := range rows {
		want := api.OK
		if !x.rises {
			want = api.ErrIs
		}
		wantCheck(t, api.Schema{Main: tInt, Types: named(x.names)}, want)
		wantCheck(t, api.Schema{Main: tInt, Sigs: sigs(x.names)}, want)
		wantCheck(t, api.Schema{Main: tInt, Types: named("A Z a"), Sigs: sigs(x.names)}, want)
		kids := wide(api.TRec, len(strings.Fields(x.names)), tInt).Kids
		wantWithin(t, fields(api.TRec, x.names, kids...), want)
		wantWithin(t, fields(api.TUnion, x.names, kids...), want)
	}
}

// P402: of the names, the first that has an error tells it.
func TestP402FirstName(t *testing.T) {
	for names, want := range map[string]api.Errno{"B A 1": api.ErrIs, "B 1 A": api.ErrName, "1 B A": api.ErrName, "A A 1": api.ErrIs, "A B 1 C": api.ErrName, "A B A 1": api.ErrIs, "B 0": api.ErrName, "B 0 A": api.ErrName, "1": api.ErrName} {
		wantCheck(t, api.Schema{Types: named(names)}, want)
		wantCheck(t, api.Schema{Main: tInt, Sigs: sigs(names)}, want)
		kids := wide(api.TRec, len(strings.Fields(names)), bad).Kids
		wantWithin(t, fields(api.TRec, names, kids...), want)
		wantWithin(t, fields(api.TUnion, names, kids...), want)
	}
	wantCheck(t, api.Schema{Main: tInt, Types: named("B A Int")}, api.ErrIs)
	wantCheck(t, api.Schema{Main: tInt, Types: named("B Int A")}, api.ErrName)
	wantCheck(t, api.Schema{Main: tInt, Types: named("U Int")}, api.ErrName)
	wantCheck(t, api.Schema{Main: tInt, Sigs: sigs("z y add")}, api.ErrIs)
	wantCheck(t, api.Schema{Main: tInt, Sigs: sigs("z add y")}, api.ErrName)
}

// P402: names of types come ahead of the types; these ahead of Main, Main ahead of functions, each function whole ahead of the next one.
func TestP402Order(t *testing.T) {
	none := []api.Sig{{Name: "1"}}
	wantCheck(t, api.Schema{Main: bad, Types: []api.Named{{Name: "A", T: bad}, {Name: "A", T: bad}}, Sigs: none}, api.ErrIs)
	wantCheck(t, api.Schema{Main: nobody, Types: []api.Named{{Name: "A", T: bad}}, Sigs: none}, api.ErrArg)
	wantCheck(t, api.Schema{Main: bad, Types: []api.Named{{Name: "A", T: tInt}, {Name: "B", T: nobody}}, Sigs: none}, api.ErrName)
	wantCheck(t, api.Schema{Main: bad, Types: []api.Named{{Name: "A", T: tInt}}, Sigs: none}, api.ErrArg)
	wantCheck(t, api.Schema{Main: tInt, Sigs: []api.Sig{{Name: "b", Result: bad}, {Name: "1", Result: tInt}}}, api.ErrArg)
	wantCheck(t, api.Schema{Main: tInt, Sigs: []api.Sig{{Name: "b", Result: bad}, {Name: "a", Result: tInt}}}, api.ErrArg)
	wantCheck(t, api.Schema{Main: tInt, Sigs: []api.Sig{{Name: "b", Result: tInt}, {Name: "a", Params: make([]api.Type, 5)}}}, api.ErrIs)
	wantCheck(t, api.Schema{Main: tInt, Sigs: []api.Sig{{Name: "len", Params: make([]api.Type, 5)}}}, api.ErrName)
	wantCheck(t, api.Schema{Main: tInt, Sigs: []api.Sig{{Name: "a", Params: []api.Type{tInt, nobody, bad}, Result: bad}}}, api.ErrName)
	wantCheck(t, api.Schema{Main: tInt, Sigs: []api.Sig{{Name: "a", Params: []api.Type{tInt, bad, nobody}, Result: nobody}}}, api.ErrArg)
	wantCheck(t, api.Schema{Main: tInt, Sigs: []api.Sig{{Name: "a", Params: []api.Type{tInt}, Result: nobody}, {Name: "b", Result: bad}}}, api.ErrName)
	// Types may be asked for by names that stand behind them.
	wantCheck(t, api.Schema{Main: tInt, Types: []api.Named{{Name: "A", T: called("B")}, {Name: "B", T: tInt}}}, api.OK)
}

func TestP402Args(t *testing.T) {
	for n := range 9 {
		want := api.OK
		if n > 4 {
			want = api.ErrArgs
		}
		g := api.Sig{Name: "g", Params: wide(api.TRec, n, tInt).Kids, Result: tInt}
		wantCheck(t, api.Schema{Main: tInt, Sigs: []api.Sig{g}}, want)
		wantCheck(t, api.Schema{Main: tInt, Sigs: []api.Sig{{Name: "f", Result: tInt}, g, {Name: "h", Result: tInt}}}, want)
	}
	wantCheck(t, api.Schema{Main: tInt, Sigs: []api.Sig{{Name: "f", Params: make([]api.Type, 4)}}}, api.ErrArg)
	wantCheck(t, api.Schema{Main: tInt, Sigs: []api.Sig{{Name: "f", Params: make([]api.Type, 5)}}}, api.ErrArgs)
	wantCheck(t, api.Schema{Main: tInt, Sigs: []api.Sig{{Name: "f", Params: make([]api.Type, 1<<16)}}}, api.ErrArgs)
}

func TestP402Kinds(t *testing.T) {
	for _, kind := range []int{0, -1, 10, 11, 1 << 31, 1<<32 + 1, 1 << 62, -1 << 63, -9, 256, 257} {
		wantWithin(t, api.Type{Kind: kind}, api.ErrArg)
		wantWithin(t, api.Type{Kind: kind, Name: "A", Names: []string{"1"}, Kids: []api.Type{tInt, tInt}}, api.ErrArg)
	}
	for _, x := range strings.Fields("Bool Int Text List<Int> Map<Int> Opt<Int> {} {a:Int} Union{a:Int} A") {
		wantWithin(t, typed(x), api.OK)
	}
	wantWithin(t, called("O"), api.OK)
	wantCheck(t, places(called("T"))[0], api.OK)
}

// P402: each kind has just the parts that it asks.
func TestP402Parts(t *testing.T) {
	for kind := api.TBool; kind <= api.TName; kind++ {
		for names := range 4 {
			for kids := range 4 {
				for _, name := range []string{"", "A", "X", "1"} {
					x := wide(kind, names, tInt)
					x.Name = name
					x.Kids = wide(kind, kids, tInt).Kids
					record := kind == api.TRec || kind == api.TUnion
					asked := 0
					if record {
						asked = names
					} else if kind == api.TList || kind == api.TMap || kind == api.TOpt {
						asked = 1
					}
					want := api.OK
					switch {
					case kids != asked, name != "" && kind != api.TName, names > 0 && !record, kind == api.TUnion && names == 0:
						want = api.ErrForm
					case kind == api.TName && name != "A":
						want = api.ErrName
					}
					wantWithin(t, x, want)
				}
			}
		}
	}
}

// P402: parts that do not fit come ahead of what is wrong with the names, or the kids.
func TestP402PartsFirst(t *testing.T) {
	for _, x := range []api.Type{
		{Kind: api.TInt, Name: "1"}, {Kind: api.TInt, Names: make([]string, 9)}, {Kind: api.TInt, Kids: []api.Type{bad}}, {Kind: api.TList, Name: "X", Kids: []api.Type{bad}}, {Kind: api.TList, Names: []string{"1"}, Kids: []api.Type{bad}}, {Kind: api.TList, Kids: []api.Type{bad, bad}},
		{Kind: api.TName, Name: "X", Kids: []api.Type{bad}}, {Kind: api.TName, Name: "X", Names: []string{"1"}}, {Kind: api.TName, Names: []string{""}},
		{Kind: api.TRec, Names: make([]string, 9)}, {Kind: api.TRec, Names: make([]string, 9), Kids: make([]api.Type, 8)}, {Kind: api.TRec, Names: []string{"1"}, Kids: []api.Type{bad, bad}}, {Kind: api.TRec, Kids: []api.Type{bad}}, {Kind: api.TRec, Name: "A"},
		{Kind: api.TUnion, Names: make([]string, 9)}, {Kind: api.TUnion, Names: []string{"1"}}, {Kind: api.TUnion, Kids: []api.Type{bad}}, {Kind: api.TUnion, Name: "A", Names: []string{"1"}, Kids: []api.Type{bad}},
		{Kind: api.TUnion},
	} {
		wantWithin(t, x, api.ErrForm)
	}
}

func TestP402NamesOfNobody(t *testing.T) {
	for _, n := range append(strings.Fields("X B AA a o Int List Bool f"), notNames...) {
		for i, s := range places(called(n)) {
			if n == "a" && i == 2 { // there it is one
				continue
			}
			wantCheck(t, s, api.ErrName)
		}
	}
	wantSource(t, "data A;", api.ErrName)
	wantSource(t, "data f; fn f() -> Int;", api.ErrName)
	wantSource(t, "data A; type B = Int;", api.ErrName)
	wantSource(t, "data Int; type A = B;", api.ErrName)
	wantSource(t, "data {A: Int}; type B = A;", api.ErrName)
}

// P402: as many fields as may be, and one more, which comes ahead of what is wrong with them.
func TestP402Fields(t *testing.T) {
	for n := 1; n < 12; n++ {
		want, spoiled := api.OK, api.ErrName
		if n > 8 {
			want, spoiled = api.ErrMany, api.ErrMany
		}
		for _, kind := range []int{api.TRec, api.TUnion} {
			wantWithin(t, wide(kind, n, tInt), want)
			x := wide(kind, n, bad)
			x.Names[0] = "1"
			wantWithin(t, x, spoiled)
		}
	}
	for _, name := range notNames {
		wantWithin(t, api.Type{Kind: api.TRec, Names: []string{name}, Kids: []api.Type{bad}}, api.ErrName)
		wantWithin(t, api.Type{Kind: api.TUnion, Names: []string{"a", name}, Kids: []api.Type{tInt, bad}}, api.ErrName)
	}
	for _, name := range strings.Fields("Bool Union data len A X _ abcdefghijklmnop") {
		wantWithin(t, fields(api.TRec, name, tInt), api.OK)
		wantWithin(t, fields(api.TUnion, name, tInt), api.OK)
	}
}

// P402: kids in order; each with all that is in it ahead of the next one.
func TestP402KidsOrder(t *testing.T) {
	wantWithin(t, fields(api.TRec, "a b", bad, nobody), api.ErrArg)
	wantWithin(t, fields(api.TRec, "a b", nobody, bad), api.ErrName)
	wantWithin(t, fields(api.TUnion, "a b c", tInt, of(api.TList, bad), nobody), api.ErrArg)
	wantWithin(t, fields(api.TUnion, "a b c", tInt, of(api.TList, nobody), bad), api.ErrName)
	wantWithin(t, fields(api.TRec, "a b", fields(api.TRec, "a", fields(api.TUnion, "")), bad), api.ErrForm)
	wantWithin(t, fields(api.TRec, "a b", fields(api.TRec, "b a", bad, bad), bad), api.ErrIs)
}
