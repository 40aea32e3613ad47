package kinds

import (
	"slices"
	"strings"
	"testing"

	"sprue/api"
	"sprue/cons"
	"sprue/sch"
	"sprue/shape"
)

// typed is the type that is written so.
func typed(s string) api.Type {
	x, e := sch.Type(s)
	if e != api.OK {
		panic(s + ": " + e.Error())
	}
	return x
}

// tabled is the table of the schema that is written so.
func tabled(s string) *cons.Table {
	x, e := sch.Parse(s)
	if e != api.OK {
		panic(s + ": " + e.Error())
	}
	t, e := cons.New(x)
	if e != api.OK {
		panic(s + ": " + e.Error())
	}
	return t
}

// added are the numbers of types that are parted by blanks.
func added(t *cons.Table, l string) []int {
	var ids []int
	for _, s := range strings.Fields(l) {
		id, e := t.Add(typed(s))
		if e != api.OK {
			panic(s + ": " + e.Error())
		}
		ids = append(ids, id)
	}
	return ids
}

// names is of a name for a type of each kind.
const names = "data Int; type B = Bool; type E = {}; type I = Int; type J = I; type L = List<I>; type M = Map<J>; type N = Map<O>; type O = Opt<I>; type P = O; type T = Text; type U = Union {a: Int};" +
	" fn f(I, O) -> L; fn g() -> P; fn h({a: Int}) -> T; fn i(Int, Bool, Text, L) -> Union {f: M};"

// wantType fails unless that is answered, in a table of its own: a type as it is written, or an error.
func wantType(t *testing.T, name, args, want string) {
	t.Helper()
	k := tabled(names)
	l := added(k, args)
	was := k.Len()
	for range 2 {
		got := told(k, name, l)
		if got != want {
			t.Errorf("%s %s: %s, not %s", name, args, got, want)
		}
	}
	if _, e := Of(k, name, l); e != api.OK && k.Len() != was {
		t.Errorf("%s %s: %d types, not %d", name, args, k.Len(), was)
	}
}

// told is what is answered, in words; an error by its own, which no type is written as.
func told(k *cons.Table, name string, args []int) string {
	id, e := Of(k, name, args)
	switch {
	case e == api.OK:
		return sch.TypeText(k.Type(id))
	case id != 0:
		return "a number beside " + e.Error()
	}
	return e.Error()
}

func TestExample(t *testing.T) {
	wantType(t, "len", "Int", "type")
}

// every is a type of each kind, and names of such.
var every = strings.Fields("Bool Int Text List<I> List<Text> Map<J> Map<O> Opt<I> Opt<Text> {} {a:Int} Union{a:Int} B E I J L M N O P T U")

// single are the functions of one argument: what they take, and what they answer.
func single() map[string][2]string {
	m := map[string][2]string{
		"len":  {"Text T List<I> List<Text> L Map<J> Map<O> M N", "Int"},
		"not":  {"Bool B", "Bool"},
		"text": {"Int I J Bool B", "Text"},
		"has":  {"Opt<I> Opt<Text> O P", "Bool"},
	}
	for _, name := range strings.Fields("i8 i16 i32 u8 u16 u32") {
		m[name] = [2]string{"Int I J", "Int"}
	}
	return m
}

// P801: functions of one argument, of a type of each kind.
func TestP801Single(t *testing.T) {
	for name, x := range single() {
		takes := strings.Fields(x[0])
		for _, a := range every {
			want := "type"
			if slices.Contains(takes, a) {
				want = x[1]
			}
			wantType(t, name, a, want)
		}
	}
}

// pairs are the functions of two arguments whose answer is of one type: what they take at each place, and what they answer.
func pairs() map[string][3]string {
	m := map[string][3]string{"cat": {"Text T", "Text T", "Text"}, "lt": {"Int I J", "Int I J", "Bool"}}
	for _, name := range strings.Fields("and or") {
		m[name] = [3]string{"Bool B", "Bool B", "Bool"}
	}
	for _, name := range strings.Fields("add sub mul shl shr") {
		m[name] = [3]string{"Int I J", "Int I J", "Int"}
	}
	return m
}

// P801: functions of two arguments, of every two types.
func TestP801Pairs(t *testing.T) {
	for name, x := range pairs() {
		first, second := strings.Fields(x[0]), strings.Fields(x[1])
		for _, a := range every {
			for _, b := range every {
				want := "type"
				if slices.Contains(first, a) && slices.Contains(second, b) {
					want = x[2]
				}
				wantType(t, name, a+" "+b, want)
			}
		}
	}
}

// P801: eq takes two of one kind, of three kinds alone.
func TestP801Eq(t *testing.T) {
	same := [][]string{{"Bool", "B"}, {"Int", "I", "J"}, {"Text", "T"}}
	for _, a := range every {
		for _, b := range every {
			want := "type"
			for _, l := range same {
				if slices.Contains(l, a) && slices.Contains(l, b) {
					want = "Bool"
				}
			}
			wantType(t, "eq", a+" "+b, want)
		}
	}
}

// P801: at and get answer by the kid that is there, as it is written.
func TestP801Parts(t *testing.T) {
	at := map[string]string{"List<I>": "I", "L": "I", "List<Text>": "Text"}
	get := map[string]string{"Map<J>": "Opt<J>", "M": "Opt<J>"}
	for _, a := range every {
		for _, b := range every {
			want, wantGet := "type", "type"
			if x, ok := at[a]; ok && slices.Contains([]string{"Int", "I", "J"}, b) {
				want = x
			}
			if x, ok := get[a]; ok && slices.Contains([]string{"Text", "T"}, b) {
				wantGet = x
			}
			wantType(t, "at", a+" "+b, want)
			wantType(t, "get", a+" "+b, wantGet)
		}
	}
	for _, x := range strings.Fields("Bool Int I List<Int> Map<O> Opt<I> P {} U L") {
		x = sch.TypeText(typed(x))
		wantType(t, "at", strings.ReplaceAll("List<"+x+">", " ", "")+" I", x)
	}
}

// P801: get of a map whose kid, opened, is an Opt; and of one that has an Opt within its kid.
func TestP801GetOpt(t *testing.T) {
	for _, x := range strings.Fields("O P Opt<I> Opt<Int> Opt<List<Int>>") {
		wantType(t, "get", "Map<"+x+"> Text", "type")
	}
	wantType(t, "get", "N Text", "type")
	wantType(t, "get", "N Int", "type")
	for x, want := range map[string]string{"List<O>": "Opt<List<O>>", "{a:O}": "Opt<{a: O}>", "Map<Opt<I>>": "Opt<Map<Opt<I>>>", "U": "Opt<U>", "I": "Opt<I>", "Int": "Opt<Int>", "Bool": "Opt<Bool>", "N": "Opt<N>"} {
		wantType(t, "get", "Map<"+x+"> T", want)
	}
	// What has stood there already has the number that it had.
	k := tabled(names)
	l := added(k, "M T Opt<J> Map<I> O")
	if id, e := Of(k, "get", l[:2]); id != l[2] || e != api.OK {
		t.Errorf("%d, %v: not %d", id, e, l[2])
	}
	// O is not what it stands for.
	o := added(k, "Opt<I>")[0]
	if id, e := Of(k, "get", []int{l[3], l[1]}); id != o || e != api.OK {
		t.Errorf("%d, %v: not %d", id, e, o)
	}
}

// P801: the second of orelse is that very kid, not what stands for it, nor what fits it.
func TestP801Orelse(t *testing.T) {
	kids := map[string]string{"Opt<I>": "I", "Opt<Text>": "Text", "O": "I", "P": "I"}
	for _, a := range every {
		for _, b := range every {
			want := "type"
			if kids[a] == b {
				want = b
			}
			wantType(t, "orelse", a+" "+b, want)
		}
	}
	wantType(t, "orelse", "Opt<Int> I", "type")
	wantType(t, "orelse", "Opt<J> I", "type")
	wantType(t, "orelse", "Opt<I> J", "type")
	wantType(t, "orelse", "Opt<J> J", "J")
	wantType(t, "orelse", "Opt<{}> {a:Int}", "type")
	wantType(t, "orelse", "Opt<{}> E", "type")
	wantType(t, "orelse", "Opt<{a:Int}> {a:Int}", "{a: Int}")
	wantType(t, "orelse", "I Opt<I>", "type")
}

// P801: an Opt within an Opt is one, too, where a table has it.
func TestP801OptOfOpt(t *testing.T) {
	wantType(t, "has", "Opt<O>", "Bool")
	wantType(t, "orelse", "Opt<O> O", "O")
	wantType(t, "orelse", "Opt<O> P", "type")
	wantType(t, "orelse", "Opt<O> I", "type")
	wantType(t, "len", "Opt<O>", "type")
}

// P801: functions of the schema take what fits.
func TestP801Schema(t *testing.T) {
	for _, a := range []string{"Int", "I", "J"} {
		for _, b := range []string{"Int", "I", "J", "O", "P", "Opt<Int>", "Opt<J>"} {
			wantType(t, "f", a+" "+b, "L")
		}
		for _, b := range []string{"Text", "Opt<Text>", "Opt<O>", "{}", "L"} {
			wantType(t, "f", a+" "+b, "type")
		}
	}
	for _, a := range []string{"Text", "O", "Opt<Int>", "L", "{}", "B"} {
		wantType(t, "f", a+" O", "type")
		wantType(t, "f", a+" Text", "type")
	}
	wantType(t, "g", "", "P")
	for _, a := range []string{"{a:Int}", "{a:J}", "{a:I,b:Text}"} {
		wantType(t, "h", a, "T")
	}
	for _, a := range []string{"{}", "E", "{a:O}", "{b:Int}", "U", "Opt<{a:Int}>"} {
		wantType(t, "h", a, "type")
	}
	wantType(t, "i", "J B T List<Int>", "Union {f: M}")
	for i, bad := range []string{"Text", "Int", "Bool", "List<Text>"} {
		l := []string{"Int", "Bool", "Text", "L"}
		l[i] = bad
		wantType(t, "i", strings.Join(l, " "), "type")
	}
}

// all are the names of the builtin functions, and of those of names.
var all = strings.Fields("len not and or eq lt add sub mul shl shr i8 i16 i32 u8 u16 u32 cat text at get has orelse f g h i")

// many is how many arguments a function takes.
func many(name string) int {
	if _, ok := single()[name]; ok || name == "h" {
		return 1
	}
	switch name {
	case "g":
		return 0
	case "i":
		return 4
	}
	return 2
}

// P801: another number of arguments, whatever they are.
func TestP801Args(t *testing.T) {
	fit := strings.Fields("Int Bool Text O L M T Int Int Int Int Int")
	for _, name := range all {
		for n := range 12 {
			if n == many(name) {
				continue
			}
			wantType(t, name, strings.Join(fit[:n], " "), "args")
			for _, a := range every {
				wantType(t, name, strings.Repeat(a+" ", n), "args")
			}
			k := tabled(names)
			if got := told(k, name, slices.Repeat([]int{-1}, n)); got != "args" {
				t.Errorf("%s: %d: %s", name, n, got)
			}
		}
	}
	// What is ahead of, or behind, arguments that fit.
	wantType(t, "len", "Text Text", "args")
	wantType(t, "not", "Bool Bool", "args")
	wantType(t, "add", "Int Int Int", "args")
	wantType(t, "cat", "Text", "args")
	wantType(t, "g", "P", "args")
	wantType(t, "orelse", "Opt<Int> Int Int", "args")
}

// P801: names that no function has, with as many arguments as may be.
func TestP801Names(t *testing.T) {
	for _, name := range []string{"", " ", "Len", "LEN", "len ", " len", "le", "lenn", "lens", "i64", "u64", "u", "i1", "ne", "gt", "div", "F", "ff", "f ", "f\x00", "len\x00", "I", "O", "Int", "true", "$", "\xff", strings.Repeat("len", 9), "abcdefghijklmnopq"} {
		for n := range 7 {
			for _, a := range every {
				wantType(t, name, strings.Repeat(a+" ", n), "name")
			}
		}
	}
	for _, name := range []string{"f", "g", "h", "i"} {
		k := tabled("data Int; fn j() -> Int;")
		if got := told(k, name, nil); got != "name" {
			t.Errorf("%s: %s", name, got)
		}
	}
}

// P801: the names that are asked are the builtin ones.
func TestP801Builtin(t *testing.T) {
	n := 0
	for _, name := range all {
		if shape.Builtin(name) {
			n++
		}
		if got := told(tabled(names), name, nil); got == "name" {
			t.Errorf("%s: %s", name, got)
		}
	}
	if n != 23 {
		t.Errorf("%d", n)
	}
}

// P801: the number is that of the type that is there, or the next one.
func TestP801Numbers(t *testing.T) {
	k := tabled("data {};")
	l := added(k, "List<{}> Map<{}>")
	for i, x := range []struct {
		name string
		args []int
	}{{"len", l[:1]}, {"eq", []int{3, 3}}, {"text", []int{3}}, {"get", []int{l[1], 5}}, {"at", []int{l[0], 3}}, {"orelse", []int{6, 0}}, {"has", []int{6}}} {
		want, size := []int{3, 4, 5, 6, 0, 0, 4}[i], []int{4, 5, 6, 7, 7, 7, 7}[i]
		for range 2 {
			if id, e := Of(k, x.name, x.args); id != want || e != api.OK || k.Len() != size {
				t.Errorf("%s %v: %d, %v, of %d; not %d, of %d", x.name, x.args, id, e, k.Len(), want, size)
			}
		}
	}
}

// P802: what fits is answered by one type, whichever it is.
func TestP802OneType(t *testing.T) {
	k := tabled(names)
	for name, l := range map[string][]string{
		"f": {"Int O", "I Int", "J Opt<J>", "I P"}, "h": {"{a:Int}", "{a:J,b:U}"}, "i": {"Int B T L", "J Bool Text List<Int>"},
		"len": {"Text", "L", "M", "List<{}>"}, "eq": {"Bool B", "I J", "T Text"}, "text": {"B", "I"}, "has": {"O", "Opt<U>"}, "add": {"I J", "Int Int"}, "cat": {"T Text", "Text Text"},
	} {
		first, e := Of(k, name, added(k, l[0]))
		for _, args := range l {
			if id, again := Of(k, name, added(k, args)); id != first || e != api.OK || again != api.OK {
				t.Errorf("%s %s: %d, %v, not %d, %v", name, args, id, again, first, e)
			}
		}
	}
}
