package kinds

import (
	"math"
	"reflect"
	"slices"
	"strings"
	"testing"

	"sprue/api"
	"sprue/cons"
)

// numbers are of types of names, and of none.
func numbers(k *cons.Table) []int {
	added(k, strings.Join(every, " "))
	return []int{math.MinInt, math.MinInt32, -1, 0, 1, 2, 3, 5, 8, k.Len() - 1, k.Len(), k.Len() + 1, api.MaxTypes, math.MaxInt32, 1 << 32, math.MaxInt}
}

// P1, P8: numbers that are no type's, at each place, beside such as are; they fit nowhere, and make nothing.
func TestP1Numbers(t *testing.T) {
	k := tabled(names)
	l := numbers(k)
	size := k.Len()
	was := firsts(k, size)
	for _, name := range all {
		for _, a := range l {
			for _, b := range l {
				args := []int{a, b, a, b}[:many(name)]
				there := func(id int) bool { return id >= 0 && id < k.Len() }
				if got := told(k, name, args); got != "type" && slices.ContainsFunc(args, func(id int) bool { return !there(id) }) {
					t.Errorf("%s %v: %s", name, args, got)
				}
			}
		}
	}
	if !reflect.DeepEqual(firsts(k, size), was) {
		t.Error("what the table had is changed")
	}
	// The kid's own number counts, not one that is as that one behind some bound.
	o := added(k, "Opt<I> I")
	for _, far := range []int{1 << 8, 1 << 16, 1 << 32, -1 << 32, math.MinInt} {
		if got := told(k, "orelse", []int{o[0], o[1] + far}); got != "type" {
			t.Errorf("%d: %s", far, got)
		}
	}
}

// P1: tables that nothing was put in, and as many arguments as there may be.
func TestP1Empty(t *testing.T) {
	for _, name := range append(all, "", "none") {
		k := &cons.Table{}
		want := "type"
		if slices.Contains(strings.Fields("f g h i none"), name) || name == "" {
			want = "name"
		}
		for _, id := range []int{-1, 0, 1} {
			if got := told(k, name, slices.Repeat([]int{id}, many(name))); got != want || k.Len() != 0 {
				t.Errorf("%s: %s, of %d", name, got, k.Len())
			}
		}
	}
	k := tabled(names)
	for _, name := range all {
		for _, n := range []int{5, 41, 1 << 20} {
			if got := told(k, name, make([]int, n)); got != "args" {
				t.Errorf("%s: %d: %s", name, n, got)
			}
		}
	}
	if got := told(k, strings.Repeat("len", 1<<20), []int{0}); got != "name" {
		t.Error(got)
	}
}

// P8: types that no schema has: fields of odd names, in no order, or twice; unions of none.
func TestP8Odd(t *testing.T) {
	k := tabled(names)
	for _, x := range []api.Type{
		{Kind: api.TUnion}, {Kind: api.TRec, Names: []string{"b", "a"}, Kids: []api.Type{typed("Int"), typed("O")}},
		{Kind: api.TRec, Names: []string{"a", "a"}, Kids: []api.Type{typed("Int"), typed("Int")}}, {Kind: api.TUnion, Names: []string{"-", ""}, Kids: []api.Type{typed("Int"), typed("O")}},
	} {
		for _, kind := range []int{api.TList, api.TMap, api.TOpt} {
			id, e := k.Add(api.Type{Kind: kind, Kids: []api.Type{x}})
			kid, err := k.Add(x)
			if e != api.OK || err != api.OK {
				t.Fatal(e, err)
			}
			whole, text := added(k, "Int")[0], added(k, "Text")[0]
			for name, ask := range map[string]struct {
				second, takes int
			}{"at": {whole, api.TList}, "get": {text, api.TMap}, "orelse": {kid, api.TOpt}} {
				got, e := Of(k, name, []int{id, ask.second})
				want := kid
				if name == "get" && e == api.OK {
					want, _ = k.Opt(kid)
				}
				if ask.takes == kind && (e != api.OK || got != want) || ask.takes != kind && (e != api.ErrType || got != 0) {
					t.Errorf("%s: %d, %v", name, got, e)
				}
			}
			if got := told(k, "len", []int{kid}); got != "type" {
				t.Error(got)
			}
		}
	}
}

// P2: arguments, their spare room too, are not changed; nor kept.
func TestP2Arguments(t *testing.T) {
	for _, name := range all {
		k := tabled(names)
		l := added(k, "Int Bool Text L O I M")
		for _, a := range l {
			for _, b := range l {
				spare := []int{a, b, l[2], l[3], 77, 78}
				args := spare[:many(name)]
				was := slices.Clone(spare)
				first := told(k, name, args)
				if !slices.Equal(spare, was) {
					t.Errorf("%s: %v: was %v", name, spare, was)
				}
				size := k.Len()
				for i := range spare {
					spare[i] = 99
				}
				if again := told(k, name, was[:many(name)]); again != first || k.Len() != size {
					t.Errorf("%s %v: %s, then %s", name, was, first, again)
				}
			}
		}
	}
}

// P2: no list and an empty one are the same.
func TestP2Empty(t *testing.T) {
	for _, name := range append(all, "none", "") {
		k := tabled(names)
		if a, b, c := told(k, name, nil), told(k, name, []int{}), told(k, name, []int{1, 2}[:0]); a != b || a != c {
			t.Errorf("%s: %s, %s, %s", name, a, b, c)
		}
	}
}

// P3, P7: two tables of one schema answer the same calls alike, whatever a third was asked; each has its own numbers.
func TestP3TwoTables(t *testing.T) {
	for i := range 200 {
		m := maker{d: dice(i)}
		s := m.schema()
		x, ok := m.table(s)
		n := maker{d: dice(i)}
		y, _ := n.table(n.schema())
		if !ok {
			continue
		}
		other := tabled(names)
		for range 60 {
			name, args := m.asked(x)
			id, e := Of(x, name, args)
			Of(other, name, args)
			if got, err := Of(y, name, args); got != id || err != e || x.Len() != y.Len() {
				t.Fatalf("%s %v: %d, %v, not %d, %v", name, args, got, err, id, e)
			}
		}
		if !reflect.DeepEqual(types(x), types(y)) {
			t.Error("two tables of the same calls differ")
		}
	}
}

// P5: whatever is refused makes nothing, even where the types that it would be answered by are not there yet.
func TestP5Refused(t *testing.T) {
	for _, name := range append(all, "none") {
		for _, main := range []string{"{}", "Text", "Int", "Bool", "List<{}>", "Map<{}>", "Opt<{}>", "Map<Opt<{}>>", "{a: Map<Opt<{}>>, b: Text}", "{a: Map<{}>, b: Int}", "{a: List<{}>, b: Text}"} {
			schema := "data " + main + "; fn f({z: {}}, {}) -> {}; fn h({z: {}}) -> {};"
			k := tabled(schema)
			was := types(k)
			for a := range k.Len() + 1 {
				for b := range k.Len() + 1 {
					for n := range 4 {
						if _, e := Of(k, name, []int{a, b, a}[:n]); e == api.OK {
							k = tabled(schema)
						} else if !reflect.DeepEqual(types(k), was) {
							t.Fatalf("%s, %s: the table is changed", main, name)
						}
					}
				}
			}
		}
	}
}
