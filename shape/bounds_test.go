package shape

import (
	"strings"
	"testing"

	"sprue/api"
	"sprue/sch"
)

// down are the ways from a type to one within it.
var down = []func(api.Type) api.Type{
	func(x api.Type) api.Type { return of(api.TList, x) },
	func(x api.Type) api.Type { return of(api.TMap, x) },
	func(x api.Type) api.Type { return fields(api.TRec, "a", x) },
	func(x api.Type) api.Type { return fields(api.TUnion, "a", x) },
	func(x api.Type) api.Type { return fields(api.TRec, "a b c", called("A"), x, tInt) },
	func(x api.Type) api.Type { return fields(api.TUnion, "a b", called("A"), x) },
}

// P402: as deep as may be, and deeper, by each way down; a type by itself is 1 deep.
func TestP402Deep(t *testing.T) {
	for _, in := range down {
		for _, inner := range []string{"Int", "A", "{}", "O"} {
			x := typed(inner)
			for n := 1; n < 20; n++ {
				want := api.OK
				if n > 12 {
					want = api.ErrDeep
				}
				wantType(t, x, want)
				x = in(x)
			}
		}
	}
	// Through names it is no deeper.
	s := api.Schema{Main: tInt, Types: named("A")}
	for range 11 {
		s.Main = of(api.TList, s.Main)
	}
	s.Types[0].T = s.Main
	s.Main = of(api.TList, called("A"))
	wantCheck(t, s, api.OK)
}

// P402: too deep comes ahead of what else is wrong there, behind what is wrong ahead of it.
func TestP402DeepOrder(t *testing.T) {
	for _, x := range []api.Type{bad, nobody, fields(api.TUnion, ""), {Kind: api.TInt, Name: "A"}, of(api.TInt, bad)} {
		for _, in := range down {
			y := x
			for range 12 {
				y = in(y)
			}
			wantType(t, y, api.ErrDeep)
			wantType(t, fields(api.TRec, "a b", bad, y), api.ErrArg)
			wantType(t, fields(api.TRec, "a b", y, bad), api.ErrDeep)
			wantType(t, fields(api.TRec, "b a", y, y), api.ErrIs)
		}
	}
	// Kids that are too deep are behind the form of what holds them.
	x := api.Type{Kind: api.TList, Kids: []api.Type{tInt, tInt}}
	for range 11 {
		x = of(api.TList, x)
	}
	wantType(t, x, api.ErrForm)
}

// sized is a type of just so many types in all.
func sized(n int) api.Type {
	if n == 1 {
		return tInt
	}
	if n <= 9 {
		return wide(api.TRec, n-1, tInt)
	}
	if n <= 80 {
		return fields(api.TRec, "a b c d e f g h", fill(n-1)...)
	}
	return fields(api.TUnion, "a b c d e f g h", fill(n-1)...)
}

// fill is eight types of so many in all, as even as may be.
func fill(n int) []api.Type {
	var l []api.Type
	for i := range 8 {
		l = append(l, sized((n+i)/8))
	}
	return l
}

func size(x api.Type) int {
	n := 1
	for _, k := range x.Kids {
		n += size(k)
	}
	return n
}

// P402: as many types as may be, and one more, in each part of a schema.
func TestP402ManyTypes(t *testing.T) {
	for _, n := range []int{1, 2, 9, 10, 73, 80, 81, 300, 397, 400} {
		if size(sized(n)) != n {
			t.Fatalf("%d are %d", n, size(sized(n)))
		}
	}
	for _, n := range []int{399, 400, 401, 402, 500} {
		want := api.OK
		if n > 400 {
			want = api.ErrMany
		}
		wantCheck(t, api.Schema{Main: sized(n)}, want)
		wantCheck(t, api.Schema{Main: tInt, Types: []api.Named{{Name: "A", T: sized(n - 1)}}}, want)
		wantCheck(t, api.Schema{Main: sized(n - 200), Types: []api.Named{{Name: "A", T: sized(100)}, {Name: "B", T: sized(100)}}}, want)
		wantCheck(t, api.Schema{Main: tInt, Sigs: []api.Sig{{Name: "f", Result: sized(n - 1)}}}, want)
		wantCheck(t, api.Schema{Main: tInt, Sigs: []api.Sig{{Name: "f", Params: []api.Type{sized(n - 2)}, Result: tInt}}}, want)
		wantCheck(t, api.Schema{Main: tInt, Sigs: []api.Sig{{Name: "f", Params: []api.Type{sized(90), sized(90), tInt, sized(90)}, Result: sized(n - 272)}}}, want)
		wantCheck(t, api.Schema{Main: sized(90), Types: []api.Named{{Name: "A", T: sized(90)}}, Sigs: []api.Sig{{Name: "f", Result: sized(90)}, {Name: "g", Params: []api.Type{called("A")}, Result: sized(n - 271)}}}, want)
	}
	// Whatever kind the last one is of.
	for _, x := range strings.Fields("Bool Int Text A O {}") {
		s := api.Schema{Main: typed(x), Types: []api.Named{{Name: "A", T: sized(397)}, {Name: "O", T: typed("Opt<Int>")}}}
		wantCheck(t, s, api.OK)
		s.Types[0].T = sized(398)
		wantCheck(t, s, api.ErrMany)
	}
	// Just as many of all that there may be.
	eight := []api.Type{sized(8), sized(8), sized(8), sized(8)}
	full := api.Schema{Main: tInt}
	for i := range 12 {
		full.Types = append(full.Types, api.Named{Name: numbered("A", i), T: tInt})
		full.Sigs = append(full.Sigs, api.Sig{Name: numbered("f", i), Params: eight, Result: tInt})
	}
	full.Sigs[11].Params = []api.Type{sized(8), sized(7), sized(8)}
	wantCheck(t, full, api.OK)
	full.Sigs[11].Params = eight[:3]
	wantCheck(t, full, api.ErrMany)
}

// P402: the one that is too many is told so, whatever else it is; those ahead of it are told first.
func TestP402ManyOrder(t *testing.T) {
	deep := bad
	for range 12 {
		deep = of(api.TList, deep)
	}
	for _, x := range []api.Type{bad, nobody, fields(api.TUnion, ""), deep} {
		e := Check(api.Schema{Main: x})
		wantCheck(t, api.Schema{Main: x, Types: []api.Named{{Name: "A", T: sized(387)}}}, e)
		wantCheck(t, api.Schema{Main: x, Types: []api.Named{{Name: "A", T: sized(400)}}}, api.ErrMany)
		wantCheck(t, api.Schema{Main: x, Types: []api.Named{{Name: "A", T: sized(401)}}}, api.ErrMany)
	}
	// The thirteenth down is the 400th, or the 401st.
	wantCheck(t, api.Schema{Main: deep, Types: []api.Named{{Name: "A", T: sized(387)}}}, api.ErrDeep)
	wantCheck(t, api.Schema{Main: deep, Types: []api.Named{{Name: "A", T: sized(388)}}}, api.ErrMany)
	// What is wrong with a type comes ahead of too many within it.
	wantCheck(t, api.Schema{Main: fields(api.TRec, "b a", sized(300), sized(300))}, api.ErrIs)
	wantCheck(t, api.Schema{Main: sized(400), Sigs: []api.Sig{{Name: "len", Result: tInt}}}, api.ErrName)
	wantCheck(t, api.Schema{Main: sized(400), Sigs: []api.Sig{{Name: "f", Params: make([]api.Type, 5)}}}, api.ErrArgs)
	wantCheck(t, api.Schema{Main: sized(400), Sigs: []api.Sig{{Name: "f", Params: make([]api.Type, 4)}}}, api.ErrMany)
	// Too many come ahead of the loops.
	wantCheck(t, api.Schema{Main: sized(400), Types: []api.Named{{Name: "A", T: called("A")}}}, api.ErrMany)
	wantCheck(t, api.Schema{Main: sized(399), Types: []api.Named{{Name: "A", T: called("A")}}}, api.ErrLoop)
}

func TestP402Loops(t *testing.T) {
	for s, want := range map[string]api.Errno{
		"type A = A;":                                                api.ErrLoop,
		"type A = B; type B = A;":                                    api.ErrLoop,
		"type A = B; type B = C; type C = A;":                        api.ErrLoop,
		"type A = B; type B = B;":                                    api.ErrLoop,
		"type A = Int; type B = B;":                                  api.ErrLoop,
		"type A = B; type B = C; type C = Int;":                      api.OK,
		"type A = {a: A};":                                           api.ErrLoop,
		"type A = {a: Int, b: A};":                                   api.ErrLoop,
		"type A = {a: {b: {c: A}}};":                                 api.ErrLoop,
		"type A = {a: B}; type B = {a: A};":                          api.ErrLoop,
		"type A = {a: B, b: B}; type B = {};":                        api.OK,
		"type A = {next: Opt<A>};":                                   api.OK,
		"type A = {next: List<A>};":                                  api.OK,
		"type A = {next: Map<A>};":                                   api.OK,
		"type A = List<A>;":                                          api.OK,
		"type A = Map<A>;":                                           api.OK,
		"type A = {a: Opt<A>, b: A};":                                api.ErrLoop,
		"type A = Union {a: A};":                                     api.ErrLoop,
		"type A = Union {a: A, b: A};":                               api.ErrLoop,
		"type A = Union {a: A, b: Int};":                             api.OK,
		"type A = Union {a: Int, b: A};":                             api.OK,
		"type A = Union {a: {a: A}, b: A};":                          api.ErrLoop,
		"type A = Union {a: {a: A}, b: Opt<A>};":                     api.OK,
		"type A = Union {a: {a: A, b: Int}, b: B}; type B = {a: A};": api.ErrLoop,
		"type A = Union {a: B}; type B = Union {a: A};":              api.ErrLoop,
		"type A = Union {a: B}; type B = Union {a: A, b: {}};":       api.OK,
		"type A = Union {a: B}; type B = Union {a: A, b: C}; type C = {a: A, b: B};":            api.ErrLoop,
		"type A = Union {a: B}; type B = Union {a: A, b: C}; type C = {a: A, b: Opt<B>};":       api.ErrLoop,
		"type A = Union {a: B}; type B = Union {a: A, b: C}; type C = {a: List<A>, b: Opt<B>};": api.OK,
		"type A = {a: B}; type B = Union {a: A, b: C}; type C = D; type D = Text;":              api.OK,
		"type D = {a: C}; type C = {a: B}; type B = {a: A}; type A = {a: D};":                   api.ErrLoop,
		"type D = {a: C}; type C = {a: B}; type B = {a: A}; type A = {a: Opt<D>};":              api.OK,
		"type A = {a: B}; type B = {a: C}; type C = {a: D}; type D = {a: Opt<A>};":              api.OK,
	} {
		for _, main := range []string{"Int", "A", "List<A>", "Opt<Int>"} {
			wantSource(t, "data "+main+"; "+s, want)
		}
	}
}

// P402: an Opt of an Opt, also through names, wherever it stands.
func TestP402OptOfOpt(t *testing.T) {
	for _, x := range strings.Fields("Opt<Opt<Int>> Opt<O> Opt<P> Opt<Q> Opt<Opt<A>> Opt<Opt<Opt<Int>>> List<Opt<O>> Map<Opt<Opt<Int>>> {a:Int,b:Opt<P>} Union{a:Int,b:Opt<O>} Opt<{a:Opt<O>}> Opt<List<Opt<Q>>>") {
		for _, s := range places(typed(x)) {
			s.Types = append(s.Types[:2:2], append([]api.Named{{Name: "P", T: called("O")}, {Name: "Q", T: called("P")}}, s.Types[2:]...)...)
			wantCheck(t, s, api.ErrType)
		}
	}
	for _, x := range strings.Fields("Opt<Int> O P Q Opt<List<Opt<Int>>> Opt<List<O>> Opt<Map<Q>> Opt<{a:O}> Opt<{}> Opt<Union{a:O}> Opt<Union{a:Opt<Int>}> Opt<A> List<O> {a:O,b:Opt<A>}") {
		for _, s := range places(typed(x)) {
			s.Types = append(s.Types[:2:2], append([]api.Named{{Name: "P", T: called("O")}, {Name: "Q", T: called("P")}}, s.Types[2:]...)...)
			wantCheck(t, s, api.OK)
		}
	}
	wantSource(t, "data Int; type A = Opt<A>;", api.ErrType)
	wantSource(t, "data Int; type A = Opt<B>; type B = A;", api.ErrType)
	wantSource(t, "data Int; type A = Opt<B>; type B = List<A>;", api.OK)
}

// P402: a loop comes ahead of any Opt of an Opt; all that may not be by itself, ahead of both.
func TestP402LoopsFirst(t *testing.T) {
	wantSource(t, "data Opt<Opt<Int>>; type A = Opt<Opt<Int>>; type Z = Z;", api.ErrLoop)
	wantSource(t, "data Int; type Z = {a: Z, b: Opt<Opt<Int>>};", api.ErrLoop)
	wantSource(t, "data Int; type A = A; type B = Nobody;", api.ErrName)
	wantSource(t, "data Nobody; type A = A;", api.ErrName)
	wantSource(t, "data Int; type A = A; fn f(Union {}) -> Int;", api.ErrForm)
	wantSource(t, "data Opt<Opt<Int>>; fn f() -> Nobody;", api.ErrName)
	wantSource(t, "data Opt<Opt<Int>>; fn f(Int, Int, Int, Int, Int) -> Int;", api.ErrArgs)
	wantSource(t, "data Opt<Opt<Int>>; fn len() -> Int;", api.ErrName)
	// A loop of Opts is no loop, an Opt of a loop is.
	wantSource(t, "data Int; type A = Opt<B>; type B = Opt<A>;", api.ErrType)
	wantSource(t, "data Opt<A>; type A = A;", api.ErrLoop)
}

func TestP403Finite(t *testing.T) {
	s := parsed("data Int; type A = A; type B = {a: Int, b: B}; type C = Union {a: B, b: C}; type D = Union {a: B, b: Int}; type E = {a: D, b: Opt<A>, c: E2}; type E2 = D; type F = List<F>; type G = Union {a: H}; type H = Union {a: G}; type I = Opt<Opt<I>>; type J = {a: G, b: F};")
	ends := strings.Fields("Bool Int Text List<Int> List<A> Map<B> Opt<C> Opt<Opt<A>> D E E2 F I {} {a:Int} {a:D,b:E,c:F} Union{a:Int} Union{a:A,b:Int} Union{a:A,b:B,c:D} {a:List<A>,b:Map<A>,c:Opt<A>} Union{a:{a:A,b:Int},b:{a:Int,b:D}} {a:Union{a:A,b:{}}} Union{a:A,b:Union{a:B,b:I}}")
	endless := strings.Fields("A B C G H J {a:A} {a:Int,b:A} {a:B,b:Int} {a:{a:{a:A}}} Union{a:A} Union{a:A,b:B,c:C} Union{a:{a:A,b:Int},b:{a:Int,b:C}} {a:Union{a:A,b:{a:B}}} Union{a:Union{a:Union{a:G}}} {a:D,b:E,c:J}")
	for want, l := range [][]string{endless, ends} {
		for _, x := range l {
			if Finite(s, typed(x)) != (want == 1) {
				t.Errorf("%s: %v", x, want == 0)
			}
		}
	}
}

const ringNames = "ABCDEFGHIJKL"

// ring is so many types, each a record of the one so many steps on, but the one at a place, which is a link of another kind.
func ring(n, step, at int, link string) api.Schema {
	s := "data Int;"
	for i := range n {
		part, next := "{a: #}", (i+step)%n
		if i == at {
			part = link
		}
		s += "type " + ringNames[i:i+1] + " = " + strings.ReplaceAll(part, "#", ringNames[next:next+1]) + ";"
	}
	return parsed(s)
}

// P402, P403: rings of names, one way round and the other; one link is what breaks it, wherever it stands.
func TestP403Rings(t *testing.T) {
	links := map[string]api.Errno{"#": api.ErrLoop, "{a: #}": api.ErrLoop, "{a: Int, b: #}": api.ErrLoop, "Union {a: #}": api.ErrLoop, "Union {a: #, b: #}": api.ErrLoop, "{a: Union {a: {a: #}}}": api.ErrLoop,
		"Opt<#>": api.OK, "List<#>": api.OK, "Map<#>": api.OK, "{a: Opt<#>}": api.OK, "Union {a: #, b: Int}": api.OK, "Union {a: {}, b: #}": api.OK, "{a: Int, b: Union {a: #, b: Text}}": api.OK, "{a: List<#>, b: Map<#>}": api.OK, "Int": api.OK, "{}": api.OK}
	for link, want := range links {
		for n := 1; n <= len(ringNames); n++ {
			for at := range n {
				wantRing(t, ring(n, 1, at, link), want)
				wantRing(t, ring(n, n-1, at, link), want)
			}
		}
	}
}

func wantRing(t *testing.T, s api.Schema, want api.Errno) {
	t.Helper()
	for _, n := range s.Types {
		if Finite(s, called(n.Name)) != (want == api.OK) {
			t.Errorf("%q: %s: %v", sch.Text(s), n.Name, want != api.OK)
		}
	}
	if len(s.Types) == 1 && s.Types[0].T.Kind == api.TOpt { // it ends, but is an Opt of itself
		want = api.ErrType
	}
	wantCheck(t, s, want)
}

// P403: as many types as may be, and names that are known to end only one by one, from the last on.
func TestP403Slow(t *testing.T) {
	for _, last := range []string{"Int", "Opt<A>", "Union {a: A, b: Int}", "A"} {
		s := api.Schema{Main: tInt}
		for i := range ringNames[1:] {
			s.Types = append(s.Types, api.Named{Name: ringNames[i : i+1], T: called(ringNames[i+1 : i+2])})
		}
		s.Types = append(s.Types, api.Named{Name: "L", T: typed(last)})
		s.Types[0].T = fields(api.TRec, "a b c d e f g h", append(fill(380)[:7], called("B"))...)
		want := api.OK
		if last == "A" {
			want = api.ErrLoop
		}
		wantCheck(t, s, want)
		for _, n := range s.Types {
			if Finite(s, called(n.Name)) != (want == api.OK) || Finite(s, fields(api.TRec, "a b c", sized(380), called(n.Name), tInt)) != (want == api.OK) {
				t.Errorf("%s: %s: %v", last, n.Name, want)
			}
		}
	}
}
