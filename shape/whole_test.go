package shape

import (
	"reflect"
	"strings"
	"testing"

	"sprue/api"
)

// odd makes types of any kinds and parts.
func odd(r *row, depth int) api.Type {
	x := api.Type{Kind: pick(r, []int{0, 1, 2, 3, 4, 5, 6, 7, 8, 9, 7, 8, 9, 10, -1, 1 << 40, -1 << 63})}
	x.Name = pick(r, []string{"", "", "A", "B", "a\x00\xff", "Int"})
	for range r.below(4) {
		x.Names = append(x.Names, pick(r, []string{"", "a", "a", "b", "{", "\xff"}))
	}
	for range r.below(4) {
		if depth > 0 {
			x.Kids = append(x.Kids, odd(r, depth-1))
		}
	}
	return x
}

func oddSchema(r *row) api.Schema {
	s := api.Schema{Main: odd(r, 4)}
	names := []string{"", "A", "B", "A", "C", "Int", "len", "f", "\xff"}
	for range r.below(15) {
		s.Types = append(s.Types, api.Named{Name: pick(r, names), T: odd(r, 3)})
	}
	for range r.below(15) {
		g := api.Sig{Name: pick(r, names), Result: odd(r, 3)}
		for range r.below(7) {
			g.Params = append(g.Params, odd(r, 2))
		}
		s.Sigs = append(s.Sigs, g)
	}
	return s
}

// P1, P2, P3, P8: schemas and types of any kind: each call ends, answers alike, and changes nothing.
func TestP8OddSchemas(t *testing.T) {
	for i := range 6000 {
		one, two := row(i), row(i)
		s, same := oddSchema(&one), oddSchema(&two)
		x, sameType := odd(&one, 5), odd(&two, 5)
		e, ends := Check(s), Finite(s, x)
		if e != verdict(s) || e != Check(s) || ends != Finite(s, x) {
			t.Fatalf("%+v: %v, then %v", s, e, Check(s))
		}
		if !reflect.DeepEqual(s, same) || !reflect.DeepEqual(x, sameType) {
			t.Fatalf("%+v: was %+v", s, same)
		}
	}
	Finite(api.Schema{}, api.Type{})
}

// roomy is a schema in which each list has spare room, with something in it.
func roomy() api.Schema {
	rec := func() api.Type {
		return api.Type{Kind: api.TRec, Names: []string{"a", "b", "spare"}[:2], Kids: []api.Type{called("A"), of(api.TOpt, called("B")), bad}[:2]}
	}
	list := api.Type{Kind: api.TList, Names: []string{"spare"}[:0], Kids: []api.Type{rec(), bad}[:1]}
	return api.Schema{
		Main:  rec(),
		Types: []api.Named{{Name: "A", T: list}, {Name: "B", T: rec()}, {Name: "spare", T: bad}}[:2],
		Sigs:  []api.Sig{{Name: "f", Params: []api.Type{rec(), list, bad}[:2], Result: rec()}, {Name: "spare", Result: bad}}[:1],
	}
}

func wholeList[T any](l []T) []T { return l[:cap(l)] }

// whole is a schema with what stands in its spare room.
func whole(s api.Schema) api.Schema {
	s.Types, s.Sigs = append([]api.Named(nil), wholeList(s.Types)...), append([]api.Sig(nil), wholeList(s.Sigs)...)
	s.Main = wholeType(s.Main)
	for i := range s.Types {
		s.Types[i].T = wholeType(s.Types[i].T)
	}
	for i := range s.Sigs {
		s.Sigs[i].Params = wholeType(api.Type{Kids: s.Sigs[i].Params}).Kids
		s.Sigs[i].Result = wholeType(s.Sigs[i].Result)
	}
	return s
}

func wholeType(x api.Type) api.Type {
	x.Names, x.Kids = wholeList(x.Names), append([]api.Type(nil), wholeList(x.Kids)...)
	for i, k := range x.Kids {
		x.Kids[i] = wholeType(k)
	}
	return x
}

// P2: nothing that is handed in is changed, its spare room neither.
func TestP2SpareRoom(t *testing.T) {
	s := roomy()
	if e := Check(s); e != api.OK {
		t.Fatal(e)
	}
	s.Types[0].T = called("A")
	if e := Check(s); e != api.ErrLoop {
		t.Error(e)
	}
	s.Types[0].T = roomy().Types[0].T
	if !Finite(s, s.Main) {
		t.Error("it is not finite")
	}
	if got, want := whole(s), whole(roomy()); !reflect.DeepEqual(got, want) {
		t.Errorf("%+v: was %+v", got, want)
	}
}

// endless are types far deeper than any that may be, and types that hold themselves.
func endless() []api.Type {
	deep := tInt
	for i := range 1 << 20 {
		deep = of(api.TList+i%3, deep)
	}
	recs := tInt
	for i := range 1 << 20 {
		recs = fields(api.TRec+i%2, "a", recs)
	}
	double := tInt
	for range 80 {
		double = fields(api.TRec, "a b", double, double)
	}
	all := []api.Type{deep, recs, double}
	for _, kind := range []int{api.TList, api.TOpt, api.TRec, api.TUnion, api.TName, 0} {
		for _, n := range []int{1, 2, 8, 1 << 18} {
			kids := make([]api.Type, n)
			x := wide(kind, min(n, 8), tInt)
			x.Kids = kids
			if kind != api.TRec && kind != api.TUnion {
				x.Names = nil
			}
			for i := range kids {
				kids[i] = x
			}
			all = append(all, kids[0])
		}
	}
	return all
}

// P1: each call ends.
func TestP1EndlessTypes(t *testing.T) {
	for _, x := range endless() {
		for _, s := range []api.Schema{{Main: x}, {Main: tInt, Types: []api.Named{{Name: "A", T: x}}}, {Main: tInt, Sigs: []api.Sig{{Name: "f", Params: []api.Type{x}, Result: x}}}} {
			if e := Check(s); e == api.OK || e != Check(s) {
				t.Errorf("%v, then %v", e, Check(s))
			}
			if Finite(s, x) != Finite(s, x) {
				t.Error("not alike")
			}
			Finite(s, called("A"))
		}
	}
}

// P1, P8: far more names than may be, in the worst order, and of one name.
func TestP1ManyNames(t *testing.T) {
	var chain, same, rings api.Schema
	const n = 1 << 17
	for i := range n {
		name := numbered("A", i)
		chain.Types = append(chain.Types, api.Named{Name: name, T: called(numbered("A", i+1))})
		same.Types = append(same.Types, api.Named{Name: "A", T: called("A")})
		rings.Types = append(rings.Types, api.Named{Name: name, T: wide(api.TUnion, 8, called(numbered("A", (i+1)%n)))})
	}
	chain.Types = append(chain.Types, api.Named{Name: numbered("A", n), T: tInt})
	for _, s := range []api.Schema{chain, same, rings} {
		if e := Check(s); e != api.ErrMany {
			t.Error(e)
		}
		if x := called(s.Types[0].Name); Finite(s, x) != Finite(s, x) {
			t.Error("not alike")
		}
	}
}

// P1: long texts where names stand.
func TestP1LongNames(t *testing.T) {
	long := strings.Repeat("a", 1<<24)
	wantName := func(s api.Schema) {
		t.Helper()
		if e := Check(s); e != api.ErrName {
			t.Error(e)
		}
	}
	wantName(api.Schema{Main: called(long)})
	wantName(api.Schema{Main: tInt, Types: []api.Named{{Name: long, T: called(long)}}})
	wantName(api.Schema{Main: tInt, Sigs: []api.Sig{{Name: long, Result: tInt}}})
	wantName(api.Schema{Main: fields(api.TRec, long, tInt)})
	if Builtin(long) || Finite(api.Schema{Main: tInt}, called(long)) {
		t.Error("it is one")
	}
	if !Finite(api.Schema{Main: tInt, Types: []api.Named{{Name: "A", T: tInt}}}, called("A")) {
		t.Error("A is not finite")
	}
}
