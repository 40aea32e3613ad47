package cons

import (
	"maps"
	"reflect"
	"slices"
	"strings"
	"testing"
	"unsafe"

	"sprue/api"
	"sprue/sch"
)

// roomy is a record whose lists have spare room, with something in it.
func roomy() api.Type {
	spare := api.Type{Kind: 10}
	list := api.Type{Kind: api.TList, Names: []string{"spare"}[:0], Kids: []api.Type{called("A"), spare}[:1]}
	return api.Type{Kind: api.TRec, Names: []string{"a", "b", "spare"}[:2], Kids: []api.Type{list, tInt, spare}[:2]}
}

func roomySchema() api.Schema {
	return api.Schema{
		Main:  roomy(),
		Types: []api.Named{{Name: "A", T: empty}, {Name: "B", T: roomy()}, {Name: "spare"}}[:2],
		Sigs:  []api.Sig{{Name: "f", Params: []api.Type{roomy(), called("A"), roomy()}[:2], Result: roomy()}, {Name: "spare"}}[:1],
	}
}

func wholeList[T any](l []T) []T { return l[:cap(l)] }

// wholeType is a type with what stands in its spare room.
func wholeType(x api.Type) api.Type {
	x.Names, x.Kids = wholeList(x.Names), append([]api.Type(nil), wholeList(x.Kids)...)
	for i, k := range x.Kids {
		x.Kids[i] = wholeType(k)
	}
	return x
}

func wholeSchema(s api.Schema) api.Schema {
	s.Types, s.Sigs = slices.Clone(wholeList(s.Types)), slices.Clone(wholeList(s.Sigs))
	s.Main = wholeType(s.Main)
	for i := range s.Types {
		s.Types[i].T = wholeType(s.Types[i].T)
	}
	for i := range s.Sigs {
		s.Sigs[i].Params = wholeType(api.Type{Kids: s.Sigs[i].Params}).Kids
		s.Sigs[i].Result = wholeType(s.Sigs[i].Result)
	}
	return s
}

// P2: what is handed in is not changed, its spare room neither.
func TestP2SpareRoom(t *testing.T) {
	s, k := roomySchema(), roomy()
	x, e := New(s)
	if e != api.OK {
		t.Fatal(e)
	}
	if id, e := x.Add(k); e != api.OK || !sch.Same(x.Type(id), k) {
		t.Errorf("%d, %v", id, e)
	}
	for i := range 130 {
		x.Add(fields(api.TRec, numbered("f", i), k))
	}
	if got, want := wholeSchema(s), wholeSchema(roomySchema()); !reflect.DeepEqual(got, want) {
		t.Errorf("%+v: was %+v", got, want)
	}
	if got, want := wholeType(k), wholeType(roomy()); !reflect.DeepEqual(got, want) {
		t.Errorf("%+v: was %+v", got, want)
	}
}

// spoil changes all of a type, its spare room too.
func spoil(x api.Type) {
	for i := range wholeList(x.Names) {
		wholeList(x.Names)[i] = "spoiled"
	}
	for i, k := range wholeList(x.Kids) {
		spoil(k)
		wholeList(x.Kids)[i] = api.Type{Kind: 77, Name: "spoiled"}
	}
}

func spoilNumbers(l []int) {
	for i := range wholeList(l) {
		wholeList(l)[i] = 777
	}
}

const large = "data {a: List<A>, b: Union {x: B, y: {}}}; type A = {n: Opt<A>, m: Map<B>}; type B = {a: Int, b: Text}; fn f(A, Int, {a: B}) -> Text; fn g(Bool) -> A;"

// P2: what was handed in may be changed behind the call.
func TestP2NotKept(t *testing.T) {
	s, k := parsed(large), typed("{c: {d: A, e: Opt<Opt<B>>}}")
	x, _ := New(s)
	id, _ := x.Add(k)
	spoil(k)
	spoil(s.Main)
	for i, n := range s.Types {
		spoil(n.T)
		s.Types[i] = api.Named{Name: "Spoiled", T: tInt}
	}
	for i, g := range s.Sigs {
		spoil(api.Type{Kids: g.Params})
		s.Sigs[i] = api.Sig{Name: "spoiled", Result: tInt}
	}
	wantLarge(t, x)
	wantAdd(t, x, typed("{c: {d: A, e: Opt<Opt<B>>}}"), id, api.OK)
}

// wantLarge fails unless a table of large, whatever was added to it, tells what it does.
func wantLarge(t *testing.T, x *Table) {
	t.Helper()
	c, _ := claimed(parsed(large))
	for id := len(c.l); id < x.Len(); id++ {
		c.l = append(c.l, x.Type(id))
	}
	compare(t, x, c)
}

// P2, P7: what was answered may be changed: nothing that is told later is.
func TestP2Answers(t *testing.T) {
	x := tabled(large)
	for range 2 {
		for id := range x.Len() {
			spoil(x.Type(id))
			n, _ := x.Node(id)
			spoilNumbers(n.Kids)
			spoil(api.Type{Names: n.Names})
		}
		for _, name := range []string{"f", "g"} {
			p, _, _ := x.Sig(name)
			spoilNumbers(p)
		}
		wantLarge(t, x)
	}
}

// span is the memory of a list, its spare room too.
type span struct{ from, to uintptr }

func spanOf[T any](l []T) span {
	at := uintptr(unsafe.Pointer(unsafe.SliceData(l)))
	return span{at, at + uintptr(cap(l))*unsafe.Sizeof(*new(T))}
}

func spans(x api.Type) []span {
	l := []span{spanOf(x.Names), spanOf(x.Kids)}
	for _, k := range x.Kids {
		l = append(l, spans(k)...)
	}
	return l
}

// P2: no two lists of answers share memory, of one answer or of two.
func TestP2NoSharedLists(t *testing.T) {
	x := tabled(large)
	id, _ := x.Add(typed("{a: {a: Int, b: Text}, b: {a: Int, b: Text}, c: List<{a: Int, b: Text}>}"))
	l := append(spans(x.Type(id)), spans(x.Type(id))...)
	for range 2 {
		n, _ := x.Node(id)
		p, _, _ := x.Sig("f")
		l = append(l, spanOf(n.Names), spanOf(n.Kids), spanOf(p))
	}
	lists := 0
	for i, a := range l {
		if a.from < a.to {
			lists++
		}
		for _, b := range l[:i] {
			if a.from < a.to && b.from < b.to && a.from < b.to && b.from < a.to {
				t.Errorf("%v, %v: shared", a, b)
			}
		}
	}
	if lists != 24 {
		t.Errorf("%d lists", lists)
	}
}

// texts are all texts that a table keeps.
func (t *Table) texts() []string {
	l := slices.Concat(slices.Collect(maps.Keys(t.named)), slices.Collect(maps.Keys(t.sigs)))
	for k := range t.numbers {
		l = append(append(l, k.name), k.names[:]...)
	}
	for _, k := range t.types {
		l = append(append(l, k.name), k.names[:]...)
	}
	return slices.DeleteFunc(l, func(s string) bool { return s == "" })
}

// P2: no text that was handed in is kept.
func TestP2TextsNotKept(t *testing.T) {
	whole := strings.Clone("Named field function")
	name, field, function := whole[:5], whole[6:11], whole[12:]
	rec, union := of(api.TRec, called(name)), of(api.TUnion, called(name))
	rec.Names, union.Names = []string{field}, []string{field}
	x, e := New(api.Schema{Main: rec, Types: []api.Named{{Name: name, T: tInt}}, Sigs: []api.Sig{{Name: function, Result: union}}})
	if e != api.OK {
		t.Fatal(e)
	}
	x.Add(union)
	x.Add(of(api.TList, union))
	if l := x.texts(); len(l) != 8 {
		t.Errorf("%q", l)
	}
	from := uintptr(unsafe.Pointer(unsafe.StringData(whole)))
	for _, s := range x.texts() {
		if at := uintptr(unsafe.Pointer(unsafe.StringData(s))); at >= from && at < from+uintptr(len(whole)) {
			t.Errorf("%q lies in what was handed in", s)
		}
	}
}

// P3, P7: two tables of one schema tell alike, whatever is asked of the other one.
func TestP7TwoTables(t *testing.T) {
	s := parsed(large)
	x, _ := New(s)
	y, _ := New(s)
	y.Add(typed("{z: Opt<Opt<Bool>>}"))
	y.Opt(0)
	wantLarge(t, x)
	z, _ := New(s)
	z.Add(typed("{z: Opt<Opt<Bool>>}"))
	z.Opt(0)
	if y.Len() != z.Len() || x.Len() == y.Len() {
		t.Errorf("%d, %d, %d", x.Len(), y.Len(), z.Len())
	}
	for id := range y.Len() {
		if !sch.Same(y.Type(id), z.Type(id)) {
			t.Errorf("%d: %+v, %+v", id, y.Type(id), z.Type(id))
		}
	}
}

// endless are types of far more types than may be, and types that hold themselves.
func endless() []api.Type {
	double := tInt
	for range 80 {
		double = fields(api.TRec, "a b", double, double)
	}
	all := []api.Type{nested(400, tInt), nested(1<<20, tInt), sized(401), sized(402), sized(5000), double}
	for _, kind := range []int{api.TList, api.TOpt, api.TRec, api.TUnion, api.TName, api.TInt, 0} {
		for _, n := range []int{1, 2, 8, 9, 1 << 18} {
			x := of(kind, make([]api.Type, n)...)
			if kind == api.TRec || kind == api.TUnion {
				x.Names = slices.Repeat([]string{"a"}, n)
			}
			for i := range x.Kids {
				x.Kids[i] = x
			}
			all = append(all, x)
		}
	}
	return all
}

// spoiled are types that may not be, of each way to be so.
func spoiled() []api.Type {
	all := []api.Type{called("X"), called(""), called("Int"), called(strings.Repeat("A", 1<<20)), fields(api.TRec, "a", called("X")), of(api.TOpt, called("a"))}
	for _, kind := range []int{0, -1, 10, 1 << 40, -1 << 63} {
		all = append(all, api.Type{Kind: kind}, of(api.TList, api.Type{Kind: kind}))
	}
	for kind := range 11 {
		for names := range 11 {
			for kids := range 11 {
				x := of(kind, slices.Repeat([]api.Type{tInt}, kids)...)
				x.Names = slices.Repeat([]string{"a"}, names)
				all = append(all, x)
				x.Name = "A"
				all = append(all, x)
			}
		}
	}
	return append(all, endless()...)
}

// held are how many kids a kind has; -1: as many as names.
func held(kind int) int { return []int{-2, 0, 0, 0, 1, 1, 1, -1, -1, 0, -2}[max(0, min(kind, 10))] }

// sound fails unless a number is a type's of the table, of the parts that its kind asks, and all that is told of it hangs together.
func sound(t *testing.T, x *Table, id int) {
	t.Helper()
	n, ok := x.Node(id)
	o, open := x.Open(id)
	if k := x.Type(id); !ok || !open || k.Kind != n.Kind || len(k.Kids) != len(n.Kids) {
		t.Errorf("%d: %+v, %v, %v", id, n, ok, open)
	}
	if h := held(n.Kind); h == -2 || h == -1 && len(n.Names) != len(n.Kids) || h >= 0 && (len(n.Names) != 0 || len(n.Kids) != h) || (n.Name == "") == (n.Kind == api.TName) {
		t.Errorf("%d: %+v", id, n)
	}
	if again, _ := x.Open(o); again != o {
		t.Errorf("%d: opened %d, %d", id, o, again)
	}
}

// P1, P2, P8: types of any kind are answered, alike each time, and the table goes on as it should.
func TestP8Types(t *testing.T) {
	for _, k := range spoiled() {
		x := fresh()
		id, e := x.Add(k)
		if again, f := x.Add(k); again != id || f != e || e != api.OK && id != 0 {
			t.Errorf("%+.200v: %d, %v, then %d, %v", k, id, e, again, f)
		}
		for id := range x.Len() {
			sound(t, x, id)
		}
		wantAdd(t, x, called("A"), 1, api.OK)
		wantNode(t, x, 2, Node{Kind: api.TOpt, Kids: []int{0}}, "Opt<{}>")
		if e != api.OK && x.Len() != 3 {
			t.Errorf("%+.200v: %v: %d types", k, e, x.Len())
		}
		if _, f := New(api.Schema{Main: k}); f == api.OK && e != api.OK {
			t.Errorf("%+.200v: %v", k, e)
		}
	}
}

// P8: numbers and kinds that are none make nothing.
func TestP8Numbers(t *testing.T) {
	x := fresh()
	for _, n := range []int{-1, 3, 4, 9, 10, 120, 1 << 31, 1 << 32, 1<<63 - 1, -1 << 63, 1<<32 + 1, 1<<32 + 2} {
		if id, e := x.Opt(n); id != 0 || e == api.OK {
			t.Errorf("Opt of %d: %d, %v", n, id, e)
		}
		if n == 3 {
			continue
		}
		if id, e := x.Base(n); id != 0 || e == api.OK {
			t.Errorf("base of %d: %d, %v", n, id, e)
		}
	}
	for _, kind := range []int{0, api.TList, api.TMap, api.TOpt, api.TRec, api.TUnion, api.TName} {
		if id, e := x.Base(kind); id != 0 || e == api.OK {
			t.Errorf("base of %d: %d, %v", kind, id, e)
		}
	}
	if x.Len() != 3 {
		t.Errorf("%d types", x.Len())
	}
}

// P1: a table that New did not make.
func TestP1NoSchema(t *testing.T) {
	var x Table
	wantNone(t, &x, 0)
	if _, _, ok := x.Sig("f"); ok || x.Len() != 0 || x.Main() != 0 {
		t.Error("there is something")
	}
	if _, e := x.Add(called("A")); e == api.OK {
		t.Error("there is an A")
	}
	wantBase(t, &x, api.TInt, 0, api.OK)
	wantAdd(t, &x, of(api.TOpt, tInt), 1, api.OK)
	wantOpt(t, &x, 0, 1, api.OK)
	wantOpen(t, &x, 0, 1)
}

// P1: schemas of any kind are answered.
func TestP8Schemas(t *testing.T) {
	for _, k := range spoiled() {
		for _, s := range []api.Schema{
			{Main: k},
			{Main: tInt, Types: []api.Named{{Name: "A", T: k}}},
			{Main: tInt, Sigs: []api.Sig{{Name: "f", Params: []api.Type{tInt, k}, Result: tInt}}},
			{Main: tInt, Sigs: []api.Sig{{Name: "f", Result: k}}},
		} {
			if x, e := New(s); (x == nil) == (e == api.OK) {
				t.Errorf("%+.200v: %v", k, e)
			}
		}
	}
}
