package sch

import (
	"slices"
	"strings"
	"testing"

	"sprue/api"
)

var (
	tBool = api.Type{Kind: api.TBool}
	tInt  = api.Type{Kind: api.TInt}
	tText = api.Type{Kind: api.TText}
)

func of(kind int, kid api.Type) api.Type { return api.Type{Kind: kind, Kids: []api.Type{kid}} }

func called(name string) api.Type { return api.Type{Kind: api.TName, Name: name} }

// fields is a record, or a union, of names (parted by blanks) and types.
func fields(kind int, names string, kids ...api.Type) api.Type {
	return api.Type{Kind: kind, Names: strings.Fields(names), Kids: kids}
}

// alike is Same once more: every field counts.
func alike(a, b api.Type) bool {
	if a.Kind != b.Kind || a.Name != b.Name || strings.Join(a.Names, "\x00") != strings.Join(b.Names, "\x00") || len(a.Names) != len(b.Names) || len(a.Kids) != len(b.Kids) {
		return false
	}
	for i := range a.Kids {
		if !alike(a.Kids[i], b.Kids[i]) {
			return false
		}
	}
	return true
}

func alikeSchemas(a, b api.Schema) bool {
	return alike(a.Main, b.Main) &&
		slices.EqualFunc(a.Types, b.Types, func(x, y api.Named) bool { return x.Name == y.Name && alike(x.T, y.T) }) &&
		slices.EqualFunc(a.Sigs, b.Sigs, func(x, y api.Sig) bool {
			return x.Name == y.Name && slices.EqualFunc(x.Params, y.Params, alike) && alike(x.Result, y.Result)
		})
}

// wantType fails unless s is just that type.
func wantType(t *testing.T, s string, want api.Type) {
	t.Helper()
	got, e := Type(s)
	if e != api.OK || !alike(got, want) {
		t.Errorf("%.80q: %+v, %v; want %+v", s, got, e, want)
	}
}

// wantTypeError fails unless s is refused with that error and nothing beside it; OK: unless it is none.
func wantTypeError(t *testing.T, s string, want api.Errno) {
	t.Helper()
	got, e := Type(s)
	if e != want || e != api.OK && !alike(got, api.Type{}) {
		t.Errorf("%.80q: %+v, %v; want %v", s, got, e, want)
	}
}

func wantSchema(t *testing.T, s string, want api.Schema) {
	t.Helper()
	got, e := Parse(s)
	if e != api.OK || !alikeSchemas(got, want) {
		t.Errorf("%.80q: %+v, %v; want %+v", s, got, e, want)
	}
}

func wantSchemaError(t *testing.T, s string, want api.Errno) {
	t.Helper()
	got, e := Parse(s)
	if e != want || e != api.OK && !alikeSchemas(got, api.Schema{}) {
		t.Errorf("%.80q: %+v, %v; want %v", s, got, e, want)
	}
}

func TestP301Types(t *testing.T) {
	wantType(t, "Bool", tBool)
	wantType(t, "Int", tInt)
	wantType(t, "\n Text\t", tText)
	wantType(t, "A_1", called("A_1"))
	wantType(t, "abcdefghijklmnop", called("abcdefghijklmnop"))
	wantType(t, "List<Int>", of(api.TList, tInt))
	wantType(t, "Map<Text>", of(api.TMap, tText))
	wantType(t, "Opt < A >", of(api.TOpt, called("A")))
	wantType(t, "List<Map<Opt<Bool>>>", of(api.TList, of(api.TMap, of(api.TOpt, tBool))))
	wantType(t, "{}", fields(api.TRec, ""))
	wantType(t, "Union{}", fields(api.TUnion, ""))
	wantType(t, "{a:Int}", fields(api.TRec, "a", tInt))
	wantType(t, "Union { t : N }", fields(api.TUnion, "t", called("N")))
	wantType(t, "{a:{b:{}},c:Union{d:List<{}>}}", fields(api.TRec, "a c", fields(api.TRec, "b", fields(api.TRec, "")), fields(api.TUnion, "d", of(api.TList, fields(api.TRec, "")))))
}

// P301: names and their types stand by names, byte by byte, whatever order they were written in.
func TestP301FieldOrder(t *testing.T) {
	wantType(t, "{b: Int, a: Text}", fields(api.TRec, "a b", tText, tInt))
	wantType(t, "Union{b: Int, a: Text}", fields(api.TUnion, "a b", tText, tInt))
	want := "1 A A1 B Z _ _1 a a1 aa b ba"
	names := strings.Fields(want)[1:]
	r := row(1)
	for range 50 {
		order := r.shuffled(len(names))
		var parts []string
		for _, i := range order {
			parts = append(parts, names[i]+": T"+names[i])
		}
		var kids []api.Type
		for _, n := range names {
			kids = append(kids, called("T"+n))
		}
		wantType(t, "{"+strings.Join(parts, ",")+"}", fields(api.TRec, want[2:], kids...))
		wantType(t, "Union{"+strings.Join(parts, ",")+"}", fields(api.TUnion, want[2:], kids...))
	}
}

// P301: of those within others, too.
func TestP301FieldOrderWithin(t *testing.T) {
	wantType(t, "{d: {b: Int, a: Text}, c: Union{f: Bool, e: List<{h: Int, g: Bool}>}}", fields(api.TRec, "c d",
		fields(api.TUnion, "e f", of(api.TList, fields(api.TRec, "g h", tBool, tInt)), tBool),
		fields(api.TRec, "a b", tText, tInt)))
}

// P301: the words of the rules are names where a rule says name; as a type, seven of them are what they say.
func TestP301RuleWords(t *testing.T) {
	for _, s := range []string{"data", "type", "fn", "Data", "int", "INT", "Ints", "union", "list", "Record", "_"} {
		wantType(t, s, called(s))
		wantType(t, "List<"+s+">", of(api.TList, called(s)))
	}
	for _, s := range []string{"data", "type", "fn", "Bool", "Int", "Text", "List", "Map", "Opt", "Union", "A"} {
		wantType(t, "{"+s+": Int}", fields(api.TRec, s, tInt))
		wantType(t, "Union{"+s+": Int}", fields(api.TUnion, s, tInt))
		wantSchema(t, "data Int; type "+s+" = Text;", api.Schema{Main: tInt, Types: []api.Named{{Name: s, T: tText}}})
		wantSchema(t, "data Int; fn "+s+"() -> Text;", api.Schema{Main: tInt, Sigs: []api.Sig{{Name: s, Result: tText}}})
	}
	wantSchema(t, "data data; type data = type; type type = fn; type fn = data; fn fn(fn, type) -> data;", api.Schema{
		Main:  called("data"),
		Types: []api.Named{{Name: "data", T: called("type")}, {Name: "fn", T: called("data")}, {Name: "type", T: called("fn")}},
		Sigs:  []api.Sig{{Name: "fn", Params: []api.Type{called("fn"), called("type")}, Result: called("data")}},
	})
	wantSchema(t, "data Opt<Opt<Int>>; type Int = List<Int>;", api.Schema{Main: of(api.TOpt, of(api.TOpt, tInt)), Types: []api.Named{{Name: "Int", T: of(api.TList, tInt)}}})
}

func TestP301TypeForm(t *testing.T) {
	for _, s := range []string{
		"", " \n", "5", "-1", `"a"`, `"Int"`, "<Int>", "}", "(", "()", "(Int)", ".", "$a", "|", ";", "=", ":", ":=", "->", ",",
		"List", "Map", "Opt", "Union", "List Int", "List<", "List<Int", "List<>", "List<<Int>>", "List<Int>>", "List<Int,Int>", "List<,>", "List>Int<", "List{Int}", "List{}", "List(Int)",
		`List<"Int">`, `"List"<Int>`, "Opt<List>", "Map<Map>", "Int Int", "Int,Int", "Int;", "Int<Int>", "Bool<A>", "Text{}", "A<Int>", "a.b", "A B", "A{}", "{}{}", "{} Int",
		"Union Int", "Union<Int>", "Union A", "Union{", "Union{a}", "Union{a:}", "Union{a:Int", "Union{a:Int,}", "Union{}{}", "Union Union{}",
		"{", "{a", "{a}", "{a:", "{a:}", "{a:Int", "{a:Int,", "{a:Int,}", "{,}", "{,a:Int}", "{a:Int,,b:Int}", "{a:Int b:Int}", "{a:Int;b:Int}", "{a:Int}}", "{{}}", "{{a:Int}}",
		"{a=Int}", "{a:=Int}", "{a Int}", "{a->Int}", "{5:Int}", `{"a":Int}`, "{a:5}", `{a:"Int"}`, "{:Int}", "{a::Int}", "{a:b:Int}", "{a.b:Int}", "{$a:Int}", "{Int}", "{a:List}", "{a:List,b:Int}", "{a:{}", "{a:Int>", "List<Int}", "{a|b:Int}", "data Int;", "data Int",
	} {
		wantTypeError(t, s, api.ErrForm)
	}
}

func TestP301Schemas(t *testing.T) {
	wantSchema(t, "data Int;", api.Schema{Main: tInt})
	wantSchema(t, "data{};", api.Schema{Main: fields(api.TRec, "")})
	wantSchema(t, "data A;type A=Int;", api.Schema{Main: called("A"), Types: []api.Named{{Name: "A", T: tInt}}})
	wantSchema(t, "data Int;fn f()->Bool;", api.Schema{Main: tInt, Sigs: []api.Sig{{Name: "f", Result: tBool}}})
	wantSchema(t, "data Int; fn f ( A ) -> { } ;", api.Schema{Main: tInt, Sigs: []api.Sig{{Name: "f", Params: []api.Type{called("A")}, Result: fields(api.TRec, "")}}})
	// What a function takes stays in its order.
	wantSchema(t, "data Int; fn f(Text, Int, Bool, Int, A) -> List<Text>;", api.Schema{Main: tInt, Sigs: []api.Sig{{Name: "f", Params: []api.Type{tText, tInt, tBool, tInt, called("A")}, Result: of(api.TList, tText)}}})
	wantSchema(t, "data {b: B, a: A}; fn g(Opt<A>) -> A; type B = {d: A, c: Int}; fn f() -> Int; type A = Text;", api.Schema{
		Main:  fields(api.TRec, "a b", called("A"), called("B")),
		Types: []api.Named{{Name: "A", T: tText}, {Name: "B", T: fields(api.TRec, "c d", tInt, called("A"))}},
		Sigs:  []api.Sig{{Name: "f", Result: tInt}, {Name: "g", Params: []api.Type{of(api.TOpt, called("A"))}, Result: called("A")}},
	})
	// Whether a schema may be is asked elsewhere.
	wantSchema(t, "data Nobody; type A = A; fn len() -> Opt<Opt<A>>;", api.Schema{Main: called("Nobody"), Types: []api.Named{{Name: "A", T: called("A")}}, Sigs: []api.Sig{{Name: "len", Result: of(api.TOpt, of(api.TOpt, called("A")))}}})
}

// P301: named types and functions stand by names, in whatever order and mixed how they were written.
func TestP301SchemaOrder(t *testing.T) {
	want := api.Schema{Main: tInt}
	names := strings.Fields("A A1 B Z _ a aa b")
	for _, n := range names {
		want.Types = append(want.Types, api.Named{Name: n, T: called("T" + n)})
		want.Sigs = append(want.Sigs, api.Sig{Name: n, Params: []api.Type{called("P" + n)}, Result: called("R" + n)})
	}
	r := row(2)
	for range 50 {
		s := "data Int;"
		for _, i := range r.shuffled(2 * len(names)) {
			n := names[i/2]
			if i%2 == 0 {
				s += "type " + n + " = T" + n + ";"
			} else {
				s += "fn " + n + "(P" + n + ") -> R" + n + ";"
			}
		}
		wantSchema(t, s, want)
	}
}

func TestP301SchemaForm(t *testing.T) {
	for _, s := range []string{
		"", "Int", "Int;", "data", "data;", "data Int", "data Int Int;", "data Int;;", ";data Int;", "data Int; Int", "data = Int;", "data: Int;", "Data Int;", `"data" Int;`, "data List;", "data Int, Int;", "data Int; data Int;", "data Int; x", "data Int; 5", "data Int; ;", "data data Int;", "{a: Int};", "data Int; A = Int;", "data Int; f() -> Int;", "data Int; fn = Int;", "data Int; type f() -> Int;", "data Int; type type A = Int;", "data Int; fn fn f() -> Int;",
		"type A = Int;", "type A = Int; data Int;", "fn f() -> Int; data Int;",
		"data Int; type", "data Int; type A", "data Int; type A =", "data Int; type A = Int", "data Int; type A Int;", "data Int; type = Int;", "data Int; type A := Int;", "data Int; type A : Int;", "data Int; type A = ;", "data Int; type A = Int Int;", "data Int; type 5 = Int;", `data Int; type "A" = Int;`, `data Int; "type" A = Int;`, "data Int; type A = B = Int;", "data Int; type A = Int, type B = Int;", "data Int; Type A = Int;", "data Int; type A.b = Int;",
		"data Int; fn", "data Int; fn f", "data Int; fn f(", "data Int; fn f()", "data Int; fn f() ->", "data Int; fn f() -> Int", "data Int; fn f -> Int;", "data Int; fn f() Int;", "data Int; fn f() = Int;", "data Int; fn f() -> ;", "data Int; fn () -> Int;", "data Int; fn f(,) -> Int;", "data Int; fn f(Int,) -> Int;", "data Int; fn f(,Int) -> Int;", "data Int; fn f(Int Int) -> Int;", "data Int; fn f(Int;Int) -> Int;", "data Int; fn f(a: Int) -> Int;", "data Int; fn f{} -> Int;", "data Int; fn f(Int} -> Int;", "data Int; fn f() -> Int -> Int;", "data Int; fn f() -> (Int);", "data Int; fn f() -> Int, Int;", "data Int; fn 5() -> Int;", `data Int; fn "f"() -> Int;`, `data Int; "fn" f() -> Int;`, "data Int; Fn f() -> Int;", "data Int; fn f(()) -> Int;", "data Int; fn f(Opt) -> Int;", "data Int; fn f() > Int;", "data Int; fn f.g() -> Int;",
	} {
		wantSchemaError(t, s, api.ErrForm)
	}
}

// P301: the words' own errors come first, however far behind they stand.
func TestP301WordErrors(t *testing.T) {
	long := "abcdefghijklmnopq"
	for s, want := range map[string]api.Errno{
		"@": api.ErrToken, "} @": api.ErrToken, "List<@": api.ErrToken, "Int Int !": api.ErrToken, "\"": api.ErrToken,
		long: api.ErrLong, "} " + long: api.ErrLong, "{a:Int,a:Int} " + long: api.ErrLong,
		nest("List<", 20, "@", ">"): api.ErrToken, nest("List<", 20, long, ">"): api.ErrLong,
		strings.Repeat(" ", 1501): api.ErrLong, strings.Repeat(" ", 1500): api.ErrForm, strings.Repeat(" ", 1497) + "Int": api.OK,
		strings.Repeat("}", 400): api.ErrForm, strings.Repeat("}", 401): api.ErrMany, strings.Repeat("List<", 200): api.ErrDeep, strings.Repeat("List<", 201): api.ErrMany,
	} {
		wantTypeError(t, s, want)
	}
	for s, want := range map[string]api.Errno{
		"data Int; type A = Int; type A = Text; @": api.ErrToken, "type @": api.ErrToken, "data " + long + ";": api.ErrLong, "data Int; type " + long + " = Int;": api.ErrLong,
		"data Int; fn f() -> Int; fn f() -> Int; fn " + long: api.ErrLong, "data Int;" + strings.Repeat(";", 397): api.ErrForm, "data Int;" + strings.Repeat(";", 398): api.ErrMany,
		"data Int;" + strings.Repeat(" ", 1491): api.OK, "data Int;" + strings.Repeat(" ", 1492): api.ErrLong,
	} {
		wantSchemaError(t, s, want)
	}
}

// P301: no bound but those of words, and of depth.
func TestP301ManyThings(t *testing.T) {
	var names, parts []string
	for i := range 99 {
		names = append(names, "n"+string(rune('A'+i/10))+string(rune('0'+i%10)))
		parts = append(parts, names[i]+":Int")
	}
	got, e := Type("{" + strings.Join(parts, ",") + "}")
	if e != api.OK || len(got.Kids) != 99 || !slices.Equal(got.Names, names) {
		t.Errorf("99 fields: %v, %d", e, len(got.Kids))
	}
	s := "data Int;fn f(" + strings.Repeat("Int,", 150) + "Int)->Int;"
	if x, e := Parse(s); e != api.OK || len(x.Sigs) != 1 || len(x.Sigs[0].Params) != 151 {
		t.Errorf("151 parameters: %v", e)
	}
	s = "data Int;"
	for _, n := range names[:40] {
		s += "type " + n + "=" + n + ";"
	}
	if x, e := Parse(s); e != api.OK || len(x.Types) != 40 {
		t.Errorf("40 named types: %v", e)
	}
	s = "data Int;"
	for _, n := range names[:40] {
		s += "fn " + n + "()->" + n + ";"
	}
	if x, e := Parse(s); e != api.OK || len(x.Sigs) != 40 {
		t.Errorf("40 functions: %v", e)
	}
}

// nest is a type within n of these.
func nest(opening string, n int, inner, closing string) string {
	return strings.Repeat(opening, n) + inner + strings.Repeat(closing, n)
}

// ways down: what stands ahead of a type within another one, and behind it.
var waysDown = [][2]string{{"List<", ">"}, {"Map<", ">"}, {"Opt<", ">"}, {"{a:", "}"}, {"Union{a:", "}"}, {"{b:Int,a:", ",c:Text}"}, {"Union{b:A,c:{},a:", "}"}}

// P301: each way down is one; a record of a union is no type by itself.
func TestP301Depth(t *testing.T) {
	inner := []string{"Int", "A", "{}", "Union{}"}
	for _, w := range waysDown {
		for _, x := range inner {
			for n := range 15 {
				want := api.OK
				if n >= 12 {
					want = api.ErrDeep
				}
				wantTypeError(t, nest(w[0], n, x, w[1]), want)
				for _, s := range []string{"data #;", "data Int; type A = #;", "data Int; fn f(#) -> Int;", "data Int; fn f(Int, #, Int) -> Int;", "data Int; fn f() -> #;"} {
					wantSchemaError(t, strings.ReplaceAll(s, "#", nest(w[0], n, x, w[1])), want)
				}
			}
		}
	}
}

func TestP301DepthMixed(t *testing.T) {
	r := row(3)
	for range 2000 {
		n := 8 + r.below(8)
		s, end := "", ""
		for range n {
			w := waysDown[r.below(len(waysDown))]
			s, end = s+w[0], w[1]+end
		}
		want := api.OK
		if n >= 12 {
			want = api.ErrDeep
		}
		wantTypeError(t, s+"Int"+end, want)
	}
	// What is deep in one place makes nothing deeper in the next one.
	deep := nest("List<", 10, "Int", ">")
	wantTypeError(t, "{a:"+deep+",b:"+deep+",c:"+deep+"}", api.OK)
	wantSchemaError(t, "data List<"+deep+">; type A = List<"+deep+">; fn f(List<"+deep+">, List<"+deep+">) -> List<"+deep+">;", api.OK)
}

// P301: whichever of ErrForm and ErrDeep stands first is told; ErrIs is told last of all.
func TestP301ErrorOrder(t *testing.T) {
	for s, want := range map[string]api.Errno{
		nest("List<", 12, "", ""):                               api.ErrForm,
		nest("List<", 12, "5", ""):                              api.ErrForm,
		nest("List<", 12, "}", ""):                              api.ErrForm,
		nest("List<", 12, `"a"`, ""):                            api.ErrForm,
		nest("List<", 12, "List", ""):                           api.ErrDeep,
		nest("List<", 12, "Union", ""):                          api.ErrDeep,
		nest("List<", 12, "{", ""):                              api.ErrDeep,
		nest("List<", 12, "{5", ""):                             api.ErrDeep,
		nest("List<", 12, "a b c", ""):                          api.ErrDeep,
		nest("{a:", 12, "", ""):                                 api.ErrForm,
		nest("{a:", 12, "}", ""):                                api.ErrForm,
		nest("{a:", 11, "{", ""):                                api.ErrForm,
		nest("{a:", 11, "{}", "}"):                              api.OK,
		nest("{a:", 11, "{a", ""):                               api.ErrForm,
		nest("{a:", 11, "{a Int}", "}"):                         api.ErrForm,
		nest("{a:", 11, "{a:Int}", "}"):                         api.ErrDeep,
		nest("Union{a:", 11, "Union", ""):                       api.ErrForm,
		nest("Union{a:", 11, "Union{", ""):                      api.ErrForm,
		nest("Union{a:", 12, "Union", ""):                       api.ErrDeep,
		"Int " + nest("List<", 12, "Int", ""):                   api.ErrForm,
		"{a:Int b:" + nest("List<", 12, "A", ""):                api.ErrForm,
		nest("List<", 12, "Int", ",,"):                          api.ErrDeep,
		"{a:Int,a:Int,b:" + nest("List<", 12, "Int", ">") + "}": api.ErrDeep,
		"{a:" + nest("List<", 12, "Int", ">") + ",a:Int}":       api.ErrDeep,
		"{a:Int,a:Int":                                          api.ErrForm,
		"{a:Int,a:Int}}":                                        api.ErrForm,
		"{a:Int,a:Int} Int":                                     api.ErrForm,
		"{a:Int,a}":                                             api.ErrForm,
		"{a:{b:A,b:A},c:}":                                      api.ErrForm,
		"{a:{b:A,b:A},a:Int}":                                   api.ErrIs,
	} {
		wantTypeError(t, s, want)
	}
	for s, want := range map[string]api.Errno{
		"data {a:Int,a:Int}":       api.ErrForm,
		"data {a:Int,a:Int}; type": api.ErrForm,
		"data {a:Int,a:Int}; type A = " + nest("Opt<", 12, "A", ">"):        api.ErrDeep,
		"data " + nest("Opt<", 12, "A", ">") + "; type":                     api.ErrDeep,
		"data Int; fn f(" + nest("Opt<", 12, "A", ">") + " -> Int;":         api.ErrDeep,
		"data Int; fn f(Int " + nest("Opt<", 12, "A", ">") + ") -> Int;":    api.ErrForm,
		"data Int; type A = Int; type A = Int; type B = Int":                api.ErrForm,
		"data Int; fn f() -> Int; fn f() -> Int; x":                         api.ErrForm,
		"data Int; fn f() -> Int; fn f() -> " + nest("{a:", 12, "Int", "}"): api.ErrDeep,
	} {
		wantSchemaError(t, s, want)
	}
}

func TestP301Twice(t *testing.T) {
	for _, s := range []string{
		"{a:Int,a:Int}", "{a:Int,a:Text}", "{a:Int,b:Int,a:Text}", "{b:Int,a:Int,c:Text,b:Int}", "{a:A,b:A,c:A,c:A}", "{Int:Int,Int:Int}", "{data:A,data:A}",
		"Union{a:Int,a:Int}", "Union{z:Int,a:Int,z:{}}", "List<{a:Int,a:Int}>", "{b:{a:Int,a:Int}}", "Union{b:Opt<Union{a:Int,a:Int}>}", "{a:{b:Int,b:Int},c:Int}",
		nest("{a:", 10, "{b:A,b:A}", "}"), "{" + strings.Repeat("a:A,", 90) + "a:A}",
	} {
		wantTypeError(t, s, api.ErrIs)
		for _, x := range []string{"data #;", "data Int; type A = #;", "data Int; fn f(#) -> Int;", "data Int; fn f(Int,#) -> Int;", "data Int; fn f() -> #; fn g() -> Int;"} {
			wantSchemaError(t, strings.ReplaceAll(x, "#", s), api.ErrIs)
		}
	}
	for _, s := range []string{"{a:{a:Int},b:{a:Int}}", "{a:Union{a:Int}}", "{a:Int,A:Int}", "{a:Int,aa:Int,a1:Int}", "{a:a,b:a}", "Union{a:{a:a}}"} {
		wantTypeError(t, s, api.OK)
	}
	for _, s := range []string{
		"data Int; type A = Int; type A = Int;", "data Int; type A = Int; type A = Text;", "data Int; type B = Int; type A = Int; type C = Int; type B = Text;", "data Int; type A = Int; fn f() -> A; type A = Int;", "data Int; type Int = Int; type Int = Int;",
		"data Int; fn f() -> Int; fn f() -> Int;", "data Int; fn f() -> Int; fn f(Int) -> Text;", "data Int; fn g() -> A; fn f() -> Int; type A = A; fn h() -> A; fn g(Int) -> Text;", "data Int; fn fn() -> fn; fn fn() -> fn;",
	} {
		wantSchemaError(t, s, api.ErrIs)
	}
	for _, s := range []string{"data A; type A = Int; fn A() -> A;", "data {A: A}; type A = {A: Int}; fn f({A: Int}, {A: Int}) -> A;", "data Int; type A = Int; type a = Int; fn F() -> A; fn f() -> A;", "data Int; fn f(Int, Int) -> Int;"} {
		wantSchemaError(t, s, api.OK)
	}
}

func TestP302TypeText(t *testing.T) {
	for want, x := range map[string]api.Type{
		"Bool": tBool, "Int": tInt, "Text": tText, "A": called("A"), "type": called("type"),
		"List<Int>": of(api.TList, tInt), "Map<Text>": of(api.TMap, tText), "Opt<A>": of(api.TOpt, called("A")),
		"List<Map<Opt<{}>>>":   of(api.TList, of(api.TMap, of(api.TOpt, fields(api.TRec, "")))),
		"{}":                   fields(api.TRec, ""),
		"{a: Int}":             fields(api.TRec, "a", tInt),
		"{a: Int, b: Text}":    fields(api.TRec, "a b", tInt, tText),
		"{a: A, b: B, c: C}":   fields(api.TRec, "a b c", called("A"), called("B"), called("C")),
		"Union {}":             fields(api.TUnion, ""),
		"Union {a: Int}":       fields(api.TUnion, "a", tInt),
		"Union {a: {}, b: {}}": fields(api.TUnion, "a b", fields(api.TRec, ""), fields(api.TRec, "")),
		"{Int: Int, List: A}":  fields(api.TRec, "Int List", tInt, called("A")),
		"Opt<Union {a: Union {b: List<{c: Bool}>}, d: Map<{}>}>": of(api.TOpt, fields(api.TUnion, "a d", fields(api.TUnion, "b", of(api.TList, fields(api.TRec, "c", tBool))), of(api.TMap, fields(api.TRec, "")))),
	} {
		if got := TypeText(x); got != want {
			t.Errorf("%q; want %q", got, want)
		}
		wantType(t, want, x)
	}
	deep := nest("Union {a: ", 11, "Int", "}")
	if x, e := Type(deep); e != api.OK || TypeText(x) != deep {
		t.Errorf("%q, %v; want %q", TypeText(x), e, deep)
	}
}

func TestP302Text(t *testing.T) {
	for want, x := range map[string]api.Schema{
		"data Int;\n": {Main: tInt},
		"data {};\n":  {Main: fields(api.TRec, "")},
		"data A;\ntype A = Int;\ntype B = {a: A, b: Text};\n": {Main: called("A"), Types: []api.Named{{Name: "A", T: tInt}, {Name: "B", T: fields(api.TRec, "a b", called("A"), tText)}}},
		"data Int;\nfn f() -> Int;\n":                         {Main: tInt, Sigs: []api.Sig{{Name: "f", Result: tInt}}},
		"data Int;\nfn f(Int) -> Int;\nfn g(Int, List<Text>, Union {a: A, b: B}) -> Opt<A>;\n": {Main: tInt, Sigs: []api.Sig{
			{Name: "f", Params: []api.Type{tInt}, Result: tInt},
			{Name: "g", Params: []api.Type{tInt, of(api.TList, tText), fields(api.TUnion, "a b", called("A"), called("B"))}, Result: of(api.TOpt, called("A"))},
		}},
		"data Map<N>;\ntype N = {next: Opt<N>};\nfn N() -> N;\n": {Main: of(api.TMap, called("N")), Types: []api.Named{{Name: "N", T: fields(api.TRec, "next", of(api.TOpt, called("N")))}}, Sigs: []api.Sig{{Name: "N", Result: called("N")}}},
	} {
		if got := Text(x); got != want {
			t.Errorf("%q; want %q", got, want)
		}
		wantSchema(t, want, x)
	}
}

// P302: two types are the same just if they are written alike; no list and an empty one are the same.
func TestP302Same(t *testing.T) {
	all := strings.Split("Bool|Int|Text|A|B|a|AA|List<Int>|Map<Int>|Opt<Int>|List<Text>|List<A>|List<List<Int>>|{}|Union{}|{a:Int}|{b:Int}|{a:Text}|{a:Int,b:Int}|{a:Int,b:Text}|{a:Text,b:Int}|{a:Int,c:Int}|{a:Int,b:Int,c:Int}|Union{a:Int}|Union{b:Int}|Union{a:Int,b:Int}|{a:{}}|{a:{a:{}}}|{a:Union{}}|Opt<{a:A}>|Opt<{a:B}>|Opt<{b:A}>|Opt<Union{a:A}>|"+nest("List<", 11, "Int", ">")+"|"+nest("List<", 11, "Text", ">")+"|"+nest("List<", 10, "Int", ">"), "|")
	for i, a := range all {
		for k, b := range all {
			x, e := Type(a)
			y, f := Type(b)
			if e != api.OK || f != api.OK || Same(x, y) != (i == k) {
				t.Errorf("%s, %s: not %v", a, b, i == k)
			}
		}
	}
	if x, y := (api.Type{Kind: api.TRec, Names: []string{}, Kids: []api.Type{}}), (api.Type{Kind: api.TRec}); !Same(x, y) || !Same(y, x) {
		t.Error("no list, an empty list: not the same")
	}
}

// P303, of examples: whatever order and blanks a type was written in.
func TestP303Again(t *testing.T) {
	for s, want := range map[string]string{
		"{b: Int, a: Text}": "{a: Text, b: Int}", "Union{b:Int,a:Text}": "Union {a: Text, b: Int}", "List\n<\tInt >": "List<Int>", "{ }": "{}", "Union\r{}": "Union {}",
		"{z:{y:A,x:B},Union:Union{t:T,s:S}}": "{Union: Union {s: S, t: T}, z: {x: B, y: A}}",
	} {
		x, e := Type(s)
		y, f := Type(TypeText(x))
		if e != api.OK || f != api.OK || TypeText(x) != want || !Same(x, y) || !alike(x, y) {
			t.Errorf("%q: %q, %v; read again %+v, %v", s, TypeText(x), e, y, f)
		}
	}
	s := "data{b:B,a:A};fn g(Int,A)->B;type B=Union{d:A,c:Int};fn f()->Int;type A=Text;"
	want := "data {a: A, b: B};\ntype A = Text;\ntype B = Union {c: Int, d: A};\nfn f() -> Int;\nfn g(Int, A) -> B;\n"
	x, e := Parse(s)
	y, f := Parse(Text(x))
	if e != api.OK || f != api.OK || Text(x) != want || Text(y) != want || !alikeSchemas(x, y) {
		t.Errorf("%q, %v, %v", Text(x), e, f)
	}
}

// P303: a text may be longer than its source, and then too long to be one.
func TestP303BeyondBounds(t *testing.T) {
	s := "data Int;fn f(" + strings.Repeat("List<{}>,", 40) + "A)->{" + strings.Repeat(" ", 30) + "};"
	x, e := Parse(s)
	if y, f := Parse(Text(x)); e != api.OK || f != api.OK || !alikeSchemas(x, y) {
		t.Errorf("%d bytes, written %d: %v, %v", len(s), len(Text(x)), e, f)
	}
	// 4 words and some 15 bytes a field, of which two are blanks that need not be.
	s = "{"
	for i := range 98 {
		s += "abcdefg" + string(rune('A'+i/10)) + string(rune('0'+i%10)) + ":abc,"
	}
	s += "z:A}"
	x2, e := Type(s)
	if _, f := Type(TypeText(x2)); e != api.OK || len(TypeText(x2)) <= api.MaxSource || f != api.ErrLong {
		t.Errorf("%d bytes, written %d: %v, %v", len(s), len(TypeText(x2)), e, f)
	}
}
