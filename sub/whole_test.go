package sub

import (
	"math"
	"reflect"
	"slices"
	"strconv"
	"strings"
	"testing"

	"sprue/api"
	"sprue/cons"
	"sprue/sch"
)

// odd are types that no schema has: too deep, names that are none, or stand in no order, or stand twice.
func odd() []api.Type {
	whole := api.Type{Kind: api.TInt}
	deep := whole
	for range 40 {
		deep = api.Type{Kind: api.TList, Kids: []api.Type{deep}}
	}
	all := []api.Type{whole, deep, typed("Opt<Opt<Opt<Int>>>"), typed("Opt<O>"), typed("Opt<Opt<A>>"), {Kind: api.TUnion}}
	for _, kind := range []int{api.TRec, api.TUnion} {
		for _, names := range []string{"b a", "a a", "a b a", "- 1", "Int"} {
			x := api.Type{Kind: kind, Names: strings.Fields(names)}
			for i := range x.Names {
				x.Kids = append(x.Kids, api.Type{Kind: 1 + i%3})
			}
			all = append(all, x)
			x.Kids = slices.Repeat([]api.Type{{Kind: api.TName, Name: "A"}}, len(x.Names))
			all = append(all, x)
		}
	}
	return all
}

// laden is a table of types of many kinds, odd ones among them.
func laden() *cons.Table {
	k := tabled("data A; type A = {a: Opt<A>, b: Int}; type O = Opt<Int>; fn f(A, O) -> List<A>;")
	for _, x := range odd() {
		k.Add(x)
	}
	return k
}

// told is all that a table tells.
func told(k *cons.Table) []any {
	var l []any
	for id := -1; id <= k.Len(); id++ {
		n, ok := k.Node(id)
		o, _ := k.Open(id)
		l = append(l, n, ok, o, k.Type(id))
	}
	p, r, ok := k.Sig("f")
	return append(l, p, r, ok, k.Main(), k.Len())
}

// answer is what Le answers.
type answer struct {
	is    bool
	pairs int
}

func ask(k *cons.Table, a, b int) answer {
	is, pairs := Le(k, a, b)
	return answer{is, pairs}
}

// P1, P2, P3, P8: odd types are answered, alike each time, and nothing of the table is changed.
func TestP2Table(t *testing.T) {
	k := laden()
	was := told(k)
	var first []answer
	for range 2 {
		var l []answer
		for a := -1; a <= k.Len(); a++ {
			for b := -1; b <= k.Len(); b++ {
				l = append(l, ask(k, a, b))
			}
		}
		if first == nil {
			first = l
		}
		if !slices.Equal(l, first) {
			t.Error("answered anew, otherwise")
		}
	}
	if !reflect.DeepEqual(told(k), was) {
		t.Error("the table tells something else")
	}
}

// P3, P7: a question is answered alike, whatever was asked ahead of it, of this table or another one.
func TestP7TwoTables(t *testing.T) {
	x, y := laden(), laden()
	n := x.Len()
	for i := range n * n {
		j := n*n - 1 - i
		ask(x, j/n, j%n)
		if got, want := ask(x, i/n, i%n), ask(y, i/n, i%n); got != want {
			t.Fatalf("%d, %d: %v, %v", i/n, i%n, got, want)
		}
	}
	if fresh := ask(laden(), 0, n-1); fresh != ask(x, 0, n-1) {
		t.Errorf("%v", fresh)
	}
}

// P1: whatever numbers.
func TestP1Numbers(t *testing.T) {
	k := laden()
	l := []int{math.MinInt, math.MinInt + 1, math.MinInt32, -1 << 16, -1, 0, 1, k.Len() - 1, k.Len(), 119, 120, 1 << 16, math.MaxInt32, 1 << 32, 1<<32 + 1, math.MaxInt - 1, math.MaxInt}
	for _, a := range l {
		for _, b := range l {
			got := ask(k, a, b)
			there := a >= 0 && a < k.Len() && b >= 0 && b < k.Len()
			if !there && got != (answer{}) {
				t.Errorf("%d, %d: %v", a, b, got)
			}
		}
	}
}

// P1, P602: a full table, of types as deep as there is room.
func TestP1FullTable(t *testing.T) {
	k := tabled("data Int; type A = List<A>; type B = List<Opt<B>>;")
	for i := 0; ; i++ {
		if _, e := k.Add(nestedIn(i, api.Type{Kind: api.TName, Name: "A"})); e != api.OK {
			break
		}
	}
	n := k.Len()
	a, b := added(k, typed("A")), added(k, typed("B"))
	for id := range n {
		x, _ := k.Open(id)
		if node, _ := k.Node(x); node.Kind != api.TList {
			continue
		}
		got := ask(k, id, a)
		if got.is == strings.Contains(sch.TypeText(k.Type(x)), "B") || got.pairs > n*n || k.Len() != n {
			t.Errorf("%s: %v", sch.TypeText(k.Type(id)), got)
		}
		if got := ask(k, id, b); !got.is || got.pairs > n*n || k.Len() != n {
			t.Errorf("%s: %v", sch.TypeText(k.Type(id)), got)
		}
	}
	if n != api.MaxTypes {
		t.Errorf("%d types", n)
	}
}

// nestedIn is a type within so many Lists.
func nestedIn(n int, x api.Type) api.Type {
	for range n {
		x = api.Type{Kind: api.TList, Kids: []api.Type{x}}
	}
	return x
}

// P601: up to eight names, of which each may be the one that lacks, or whose kids do not fit.
func TestP601Wide(t *testing.T) {
	whole := api.Type{Kind: api.TRec}
	for i := range 8 {
		whole.Names = append(whole.Names, "abcdefghijklmno"+strconv.Itoa(i))
		whole.Kids = append(whole.Kids, api.Type{Kind: api.TInt})
	}
	for _, kind := range []int{api.TRec, api.TUnion} {
		whole.Kind = kind
		for i := range 8 {
			k := tabled("data Int;")
			less := api.Type{Kind: kind, Names: slices.Delete(slices.Clone(whole.Names), i, i+1), Kids: whole.Kids[:7]}
			other := api.Type{Kind: kind, Names: whole.Names, Kids: slices.Clone(whole.Kids)}
			other.Kids[i] = api.Type{Kind: api.TText}
			a, b, c := added(k, whole), added(k, less), added(k, other)
			wantLe(t, k, a, b, kind == api.TRec, 1)
			wantLe(t, k, b, a, kind == api.TUnion, 1)
			wantLe(t, k, a, c, false, 2)
			wantLe(t, k, c, a, false, 2)
			wantLe(t, k, c, b, kind == api.TRec, 1)
			wantLe(t, k, b, c, kind == api.TUnion, 1)
		}
	}
}
