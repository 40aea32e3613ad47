package kinds

import (
	"reflect"
	"strconv"
	"testing"

	"sprue/api"
	"sprue/cons"
	"sprue/sch"
)

// fill adds records of nothing but E till just so many more types have room.
func fill(k *cons.Table, room int) {
	e := api.Type{Kind: api.TName, Name: "E"}
	for i := 0; k.Len() < api.MaxTypes-room; i++ {
		if _, err := k.Add(api.Type{Kind: api.TRec, Names: []string{"f" + strconv.Itoa(i)}, Kids: []api.Type{e}}); err != api.OK {
			panic(err.Error())
		}
	}
}

// full is a question, and the answer of a table that has no room; with room for one it is type.
type full struct{ main, name, args, answer, roomy string }

var fullAsks = []full{
	{"Text", "len", "Text", "big", "Int"}, {"Text", "cat", "Text Text", "Text", "Text"}, {"Text", "eq", "Text Text", "big", "Bool"},
	{"List<E>", "len", "List<E>", "big", "Int"}, {"Map<E>", "len", "Map<E>", "big", "Int"}, {"Opt<E>", "has", "Opt<E>", "big", "Bool"},
	{"Int", "lt", "Int Int", "big", "Bool"}, {"Int", "eq", "Int Int", "big", "Bool"}, {"Int", "text", "Int", "big", "Text"}, {"Bool", "text", "Bool", "big", "Text"},
	{"Int", "add", "Int Int", "Int", "Int"}, {"Int", "u16", "Int", "Int", "Int"}, {"Bool", "not", "Bool", "Bool", "Bool"}, {"Bool", "or", "Bool Bool", "Bool", "Bool"},
	{"{a: Text, b: Map<E>}", "get", "Map<E> Text", "big", "Opt<E>"}, {"{a: Text, b: Map<E>, c: Opt<E>}", "get", "Map<E> Text", "Opt<E>", "Opt<E>"},
	{"{a: Int, b: List<E>}", "at", "List<E> Int", "E", "E"}, {"Opt<E>", "orelse", "Opt<E> E", "E", "E"},
	{"{a: Text, b: Map<Opt<E>>}", "get", "Map<Opt<E>> Text", "type", "type"}, {"{a: Text, b: Map<E>}", "get", "Text Map<E>", "type", "type"},
	{"Text", "len", "E", "type", "type"}, {"Text", "len", "Text Text", "args", "args"}, {"Text", "eq", "Text E", "type", "type"}, {"Text", "not", "Text", "type", "type"},
	{"Text", "has", "Text", "type", "type"}, {"Text", "lt", "Text Text", "type", "type"}, {"Text", "i8", "Text", "type", "type"}, {"Text", "text", "Text", "type", "type"}, {"Text", "none", "Text", "name", "name"},
	{"Text", "f", "E", "E", "E"}, {"Text", "f", "Text", "E", "E"}, {"Text", "f", "", "args", "args"}, {"List<E>", "g", "E", "List<E>", "List<E>"}, {"List<E>", "g", "List<E>", "type", "type"},
}

func (x full) table(room int) *cons.Table {
	fn := "fn f({}) -> E;"
	switch x.name {
	case "f":
		fn = "fn f(Opt<" + map[bool]string{true: x.args, false: "E"}[x.args != ""] + ">) -> E;"
	case "g":
		fn = "fn g({}) -> List<E>;"
	}
	k := tabled("data " + x.main + "; type E = {}; " + fn)
	fill(k, room)
	return k
}

// P801, P5: a full table: ErrBig just where a type must be made, behind every other error; nothing is changed.
func TestP801Big(t *testing.T) {
	for _, x := range fullAsks {
		k := x.table(0)
		l := added(k, x.args)
		was := types(k)
		for range 2 {
			if got := told(k, x.name, l); got != x.answer || k.Len() != api.MaxTypes {
				t.Errorf("%+v: %s, of %d", x, got, k.Len())
			}
		}
		if !reflect.DeepEqual(types(k), was) {
			t.Errorf("%+v: the table is changed", x)
		}
	}
}

// P801: where one more type has room, that one is made, and none where it is not needed.
func TestP801LastRoom(t *testing.T) {
	for _, x := range fullAsks {
		k := x.table(1)
		l := added(k, x.args)
		for range 2 {
			if got := told(k, x.name, l); got != x.roomy {
				t.Errorf("%+v: %s", x, got)
			}
		}
		want := api.MaxTypes - 1
		if x.answer == "big" {
			want++
		}
		if k.Len() != want {
			t.Errorf("%+v: of %d, not %d", x, k.Len(), want)
		}
	}
}

// types are all types of a table, and what it tells besides.
func types(k *cons.Table) []any {
	return append(firsts(k, k.Len()), k.Len())
}

// firsts are so many types of a table, and what its schema says.
func firsts(k *cons.Table, many int) []any {
	l := []any{k.Main()}
	for id := range many {
		n, _ := k.Node(id)
		o, _ := k.Open(id)
		l = append(l, n, o, sch.TypeText(k.Type(id)))
	}
	for _, name := range all {
		p, r, ok := k.Sig(name)
		l = append(l, p, r, ok)
	}
	return l
}
