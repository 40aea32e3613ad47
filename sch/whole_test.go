package sch

import (
	"strings"
	"testing"
	"unsafe"

	"sprue/api"
)

// P1, P3, P4: bytes of any kind; every call ends, answers alike, and nothing beside an error.
func TestAnyBytes(t *testing.T) {
	r := row(8)
	for range 20000 {
		b := make([]byte, r.below(1520))
		if r.below(2) == 0 {
			b = b[:min(len(b), 8)]
		}
		for i := range b {
			b[i] = byte(r.below(256))
			if r.below(2) == 0 {
				b[i] = "{}<>:,;()=-> aIntListdatatypefn"[r.below(31)]
			}
		}
		s := string(b)
		x, e := Type(s)
		y, f := Type(s)
		if e != f || !alike(x, y) || e != api.OK && !alike(x, api.Type{}) {
			t.Fatalf("%q: %+v, %v; then %+v, %v", s, x, e, y, f)
		}
		v, e := Parse(s)
		w, f := Parse(s)
		if e != f || !alikeSchemas(v, w) || e != api.OK && !alikeSchemas(v, api.Schema{}) {
			t.Fatalf("%q: %+v, %v; then %+v, %v", s, v, e, w, f)
		}
	}
}

// odd makes types that Parse does not make.
func odd(r *row, depth int) api.Type {
	kinds := []int{0, 1, 2, 3, 4, 5, 6, 7, 8, 9, 10, -1, 1 << 40, -1 << 63}
	x := api.Type{Kind: kinds[r.below(len(kinds))]}
	for range r.below(3) {
		x.Name += "a;\n\xff"
	}
	for range r.below(4) {
		x.Names = append(x.Names, []string{"", "a", "a", "b", "{"}[r.below(5)])
	}
	for range r.below(4) {
		if depth > 0 {
			x.Kids = append(x.Kids, odd(r, depth-1))
		}
	}
	return x
}

// P1, P8: types that may not be: every call ends, and changes nothing.
func TestP8OddTypes(t *testing.T) {
	r := row(9)
	for range 5000 {
		x, y := odd(&r, 4), odd(&r, 4)
		before := cloned(x)
		s := api.Schema{Main: x, Types: []api.Named{{Name: x.Name, T: y}, {T: x}}, Sigs: []api.Sig{{Params: []api.Type{x, y}, Result: y}, {}}}
		if TypeText(x) != TypeText(x) || Text(s) != Text(s) || Same(x, y) != Same(y, x) {
			t.Fatalf("%+v: not alike", x)
		}
		if !alike(x, before) {
			t.Fatalf("%+v: was %+v", x, before)
		}
	}
	Text(api.Schema{})
	Same(api.Type{}, api.Type{})
}

func cloned(x api.Type) api.Type {
	x.Names = append([]string(nil), x.Names...)
	kids := x.Kids
	x.Kids = nil
	for _, k := range kids {
		x.Kids = append(x.Kids, cloned(k))
	}
	return x
}

// P1: types far deeper than any that is read, and types that hold themselves.
func TestP1EndlessTypes(t *testing.T) {
	deep := api.Type{Kind: api.TInt}
	for i := range 1 << 20 {
		deep = api.Type{Kind: api.TList + i%3, Kids: []api.Type{deep}}
	}
	loops := []api.Type{deep}
	for _, kind := range []int{api.TList, api.TRec, api.TUnion, api.TName, 0} {
		for _, n := range []int{1, 2, 5000} {
			kids := make([]api.Type, n)
			for i := range kids {
				kids[i] = api.Type{Kind: kind, Names: make([]string, min(n, 3)), Kids: kids}
			}
			loops = append(loops, kids[0])
		}
	}
	for _, x := range loops {
		if TypeText(x) != TypeText(x) || Same(x, x) != Same(x, x) {
			t.Error("not alike")
		}
		Text(api.Schema{Main: x, Types: []api.Named{{T: x}}, Sigs: []api.Sig{{Params: []api.Type{x}, Result: x}}})
	}
}

// P302: a table of types may make deeper ones than a source does; these are told as well.
func TestP302BelowTheDepthOfSources(t *testing.T) {
	deep, text := tInt, "Int"
	for range 600 {
		deep, text = of(api.TOpt, deep), "Opt<"+text+">"
	}
	if TypeText(deep) != text || !Same(deep, cloned(deep)) || Same(deep, deep.Kids[0]) {
		t.Error("600 deep: not told")
	}
}

// span is the memory of a list, its spare room too.
type span struct{ from, to uintptr }

func spanOf[T any](l []T) span {
	var x T
	from := uintptr(unsafe.Pointer(unsafe.SliceData(l)))
	return span{from, from + uintptr(cap(l))*unsafe.Sizeof(x)}
}

func typeSpans(x api.Type) []span {
	l := []span{spanOf(x.Names), spanOf(x.Kids)}
	for _, k := range x.Kids {
		l = append(l, typeSpans(k)...)
	}
	return l
}

func schemaSpans(s api.Schema) []span {
	l := append(typeSpans(s.Main), spanOf(s.Types), spanOf(s.Sigs))
	for _, n := range s.Types {
		l = append(l, typeSpans(n.T)...)
	}
	for _, g := range s.Sigs {
		l = append(l, spanOf(g.Params))
		for _, p := range g.Params {
			l = append(l, typeSpans(p)...)
		}
		l = append(l, typeSpans(g.Result)...)
	}
	return l
}

// P2: no two lists of answers share memory, of one answer or of two.
func TestP2NoSharedLists(t *testing.T) {
	s := "data {b: {d: Int, c: List<A>, e: {}}, a: Union{g: A, f: {}}}; type B = {a: Int, b: Int}; type A = {a: Int, b: Int}; fn g(Int, {a: A, b: B}, {}) -> {a: Int, b: Int}; fn f(Int, Int) -> A; fn e() -> B;"
	x, _ := Parse(s)
	y, _ := Parse(s)
	l := append(schemaSpans(x), schemaSpans(y)...)
	if len(l) < 60 {
		t.Errorf("only %d lists", len(l))
	}
	for i, a := range l {
		for _, b := range l[:i] {
			if a.from < a.to && b.from < b.to && a.from < b.to && b.from < a.to {
				t.Errorf("%v, %v: shared", a, b)
			}
		}
	}
}

// P2: an answer that its owner changes changes no later one.
func TestP2NewMemory(t *testing.T) {
	const s = "{b: {d: Int}, a: List<A>}"
	want, _ := Type(s)
	want = cloned(want)
	got, _ := Type(s)
	for i := range got.Kids[:cap(got.Kids)] {
		got.Kids[:cap(got.Kids)][i] = called("changed")
	}
	for i := range got.Names[:cap(got.Names)] {
		got.Names[:cap(got.Names)][i] = "changed"
	}
	wantType(t, s, want)
}

// P2: what is handed in is not kept: no text of an answer lies in the source, or in a type's names.
func TestP2NotKept(t *testing.T) {
	s := strings.Clone("data {abc: Defghi}; type Defghi = Int; fn jkl() -> Int;")
	x, _ := Parse(s)
	within := func(part, whole string) bool {
		p, w := uintptr(unsafe.Pointer(unsafe.StringData(part))), uintptr(unsafe.Pointer(unsafe.StringData(whole)))
		return p >= w && p < w+uintptr(len(whole))
	}
	for _, name := range []string{x.Main.Names[0], x.Main.Kids[0].Name, x.Types[0].Name, x.Sigs[0].Name} {
		if within(name, s) {
			t.Errorf("%q lies in the source", name)
		}
	}
	if name := strings.Clone("Defghi"); within(TypeText(called(name)), name) {
		t.Error("the text is the name")
	}
}
