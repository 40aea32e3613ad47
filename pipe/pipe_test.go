package pipe

import (
	"strconv"
	"strings"
	"testing"

	"sprue/api"
	"sprue/cons"
	"sprue/sch"
	"sprue/tree"
)

// typed is the type that is written so.
func typed(s string) api.Type {
	x, e := sch.Type(s)
	if e != api.OK {
		panic(s + ": " + e.Error())
	}
	return x
}

// tabled is the table of the schema that is written so.
func tabled(s string) *cons.Table {
	x, e := sch.Parse(s)
	if e != api.OK {
		panic(s + ": " + e.Error())
	}
	t, e := cons.New(x)
	if e != api.OK {
		panic(s + ": " + e.Error())
	}
	return t
}

// added is the number of the type that is written so.
func added(t *cons.Table, s string) int {
	id, e := t.Add(typed(s))
	if e != api.OK {
		panic(s + ": " + e.Error())
	}
	return id
}

// read are the commands of the pipeline that is written so.
func read(s string) []api.Command {
	p, e := tree.Pipe(s)
	if e != api.OK {
		panic(s + ": " + e.Error())
	}
	return p
}

// envOf is an Env as it is written: the dot's type, then variables (`$x Int`) and narrows (`.a.b Int`, `0.a Int`; of the whole: `-1 Int`, `0 Int`), with `;` between.
func envOf(t *cons.Table, s string) Env {
	head, rest, _ := strings.Cut(s, ";")
	e := Env{Dot: added(t, strings.TrimSpace(head))}
	for _, part := range strings.Split(rest, ";") {
		part = strings.TrimSpace(part)
		what, kind, ok := strings.Cut(part, " ")
		if !ok {
			continue
		}
		if name, ok := strings.CutPrefix(what, "$"); ok {
			e.Vars = append(e.Vars, Var{name, added(t, kind)})
			continue
		}
		l := strings.Split(what, ".")
		n := Narrow{Var: -1, Path: l[1:], Type: added(t, kind)}
		if l[0] != "" {
			n.Var, _ = strconv.Atoi(l[0])
		}
		e.Narrows = append(e.Narrows, n)
	}
	return e
}

// told is what is answered, in words; an error by its own, which no type is written as.
func told(t *cons.Table, e Env, p []api.Command) string {
	id, err := Of(t, e, p)
	switch {
	case err == api.OK:
		return sch.TypeText(t.Type(id))
	case id != 0:
		return "a number beside " + err.Error()
	}
	return err.Error()
}

// names is a schema of a name for a type of each kind.
const names = "data Int; type B = Bool; type I = Int; type L = List<R>; type M = Map<I>; type O = Opt<R>; type P = O;" +
	" type R = {n: Opt<R>, s: S, v: I}; type S = {b: B, t: Text}; type T = Text; type U = Union {s: S};" +
	" fn f(O) -> R; fn g(I, T) -> L; fn h() -> S; fn k(B, I, T, L) -> U;"

// wants fails unless each pipeline is answered so, twice, in an Env and a table of its own. (Lines: a pipeline, ` => `, a type or an error's word.)
func wants(t *testing.T, env, lines string) {
	t.Helper()
	for _, line := range strings.Split(strings.TrimSpace(lines), "\n") {
		s, want, ok := strings.Cut(strings.TrimSpace(line), " => ")
		if !ok {
			t.Fatalf("%q", line)
		}
		k := tabled(names)
		e := envOf(k, env)
		p := read(s)
		got := told(k, e, p)
		size := k.Len()
		if again := told(k, e, p); got != want || again != want || k.Len() != size {
			t.Errorf("%s: %s: %s, then %s, not %s; of %d, then %d", env, s, got, again, want, size, k.Len())
		}
	}
}

func TestExample(t *testing.T) {
	wants(t, "{a: Text}", ".a | len => Int")
}

// P901: operands of each kind.
func TestP901Operands(t *testing.T) {
	wants(t, "{a: Text}; $x List<Text>", `
		. => {a: Text}
		.a => Text
		$x => List<Text>
		5 => Int
		-9223372036854775808 => Int
		"" => Text
		"a" => Text
		true => Bool
		false => Bool
		h => S
		(.) => {a: Text}
		(.a) => Text
		($x) => List<Text>
		(5) => Int
		("a") => Text
		(true) => Bool
		(h) => S
		(((((((((((($x)))))))))))) => List<Text>
		((.a) | len) => Int`)
}

// P901: what is of no parts has the number that is there, or the next one.
func TestP901Made(t *testing.T) {
	k := tabled("data {}; fn f(Text) -> {};")
	for i, x := range []struct {
		s    string
		want int
		err  api.Errno
		size int
	}{
		{".", 0, api.OK, 2}, {`"a"`, 1, api.OK, 2}, {`f "a"`, 0, api.OK, 2}, {"true", 2, api.OK, 3}, {"5", 3, api.OK, 4}, {"false", 2, api.OK, 4}, {"6", 3, api.OK, 4}, {`""`, 1, api.OK, 4}, {"(6)", 3, api.OK, 4},
	} {
		id, e := Of(k, Env{}, read(x.s))
		if id != x.want || e != x.err || k.Len() != x.size {
			t.Errorf("%d: %s: %d, %v, of %d", i, x.s, id, e, k.Len())
		}
	}
	// In order, and what was made ahead of an error stays.
	for s, order := range map[string]string{`add 1 "a"`: "{} Int Text", `add "a" 1`: "{} Text Int", `1 | add "a"`: "{} Int Text", `none (len "a") true`: "{} Text Int Bool", `5 | .q`: "{} Int", `5 | 6`: "{} Int", `"a" | 6`: "{} Text Int", `.q | len 5`: "{}", `len $q 5`: "{}", `len 5 $q`: "{} Int", `true | len (5) .q "a"`: "{} Bool Int", `len 5 | not`: "{} Int", `len "a" | not`: "{} Text Int", `lt 1 2 | len`: "{} Int Bool"} {
		k := tabled("data {};")
		if _, e := Of(k, Env{}, read(s)); e == api.OK {
			t.Errorf("%s is typed", s)
		}
		var l []string
		for id := range k.Len() {
			l = append(l, sch.TypeText(k.Type(id)))
		}
		if got := strings.Join(l, " "); got != order {
			t.Errorf("%s: %s, not %s", s, got, order)
		}
	}
}

// P901: fields of records, through names; of what is none, and names that a record has not.
func TestP901Fields(t *testing.T) {
	wants(t, "{a: Opt<Int>, b: {c: Text, d: Opt<R>}, e: {}, l: List<R>, m: Map<R>, r: R, u: Union {s: S}}", `
		.a => Opt<Int>
		.b => {c: Text, d: Opt<R>}
		.b.c => Text
		.b.d => Opt<R>
		.r => R
		.r.s => S
		.r.s.b => B
		.r.s.t => Text
		.r.v => I
		.r.n => Opt<R>
		.q => field
		.A => field
		.aa => field
		.b.a => field
		.b.q.c => field
		.b.c.d => field
		.b.d.n => field
		.e.a => field
		.l.n => field
		.m.n => field
		.u.s => field
		.r.n.n => field
		.r.v.v => field
		.r.s.b.b => field
		.r.s.t.len => field`)
	for _, dot := range []string{"Bool", "Int", "Text", "List<R>", "Map<R>", "Opt<R>", "Union {s: S}", "{}", "B", "I", "L", "M", "O", "P", "T", "U", "{v: Int, w: Int}", "S"} {
		wants(t, dot, ".s => field\n . => "+dot)
		wants(t, "Int; $x "+dot, "$x.s => field\n $x => "+dot)
	}
	wants(t, "R", ".s => S\n .s.t => Text\n . => R")
}

// P901: of eight fields, each.
func TestP901EveryField(t *testing.T) {
	x := "{a: Int, b: Text, c: Bool, d: List<Int>, e: Map<Int>, f: Opt<Int>, g: {}, h: R}"
	wants(t, x, ".a => Int\n.b => Text\n.c => Bool\n.d => List<Int>\n.e => Map<Int>\n.f => Opt<Int>\n.g => {}\n.h => R\n.i => field")
}

// P901: the last variable of a name counts.
func TestP901Variables(t *testing.T) {
	wants(t, "R; $x Int; $y R; $x Text; $X Bool; $xx {a: Int}; $v S; $len Bool", `
		$x => Text
		$y => R
		$y.s.t => Text
		$X => Bool
		$xx => {a: Int}
		$xx.a => Int
		$v => S
		$v.t => Text
		$len => Bool
		.v => I
		$x.v => field
		$y.q => field
		$z => name
		$z.v => name
		$Y => name
		$n => name
		$s.t => name
		$xxx => name`)
	wants(t, "Int; $x R; $x S; $x Int; $x S", "$x.t => Text\n$x.v => field")
	wants(t, "Int", "$x => name\n . => Int")
	// No path of the dot is one of a variable without a name.
	k := tabled(names)
	e := Env{Dot: added(k, "R"), Vars: []Var{{"", added(k, "Text")}}}
	if got := told(k, e, read(".")); got != "R" {
		t.Error(got)
	}
}

// P901: a narrow's type is that of its path, and of what begins with it.
func TestP901Narrows(t *testing.T) {
	wants(t, "{a: Opt<R>, b: {a: O, c: Int}, d: O}; .a R; .b.a S", `
		. => {a: Opt<R>, b: {a: O, c: Int}, d: O}
		.a => R
		.a.v => I
		.a.s.t => Text
		.a.n => Opt<R>
		.a.n.v => field
		.a.q => field
		.b => {a: O, c: Int}
		.b.a => S
		.b.a.t => Text
		.b.a.v => field
		.b.c => Int
		.d => O
		.d.v => field
		f .d => R
		f .a => R
		(.a) => R
		.a | f => R`)
}

// P901: the longest front counts, whatever stands ahead of it or behind; of one front the last narrow.
func TestP901LongestFront(t *testing.T) {
	for _, narrows := range []string{"; .r S; .r.n R; .r.n.s Int", "; .r.n.s Int; .r.n R; .r S", "; .r.n R; .r.n.s Int; .r S", "; .r.n.s Bool; .r S; .r.n R; .r.n.s Int", "; -1 Int; .r R; .r S; .r.n R; .r.n.s Int; -1 R"} {
		wants(t, "{r: R}"+narrows, `
			.r => S
			.r.t => Text
			.r.v => field
			.r.n => R
			.r.n.v => I
			.r.n.s => Int
			.r.n.s.t => field
			.r.n.n => Opt<R>`)
	}
	wants(t, "{a: Int, b: Int}; .a Text; .a Bool; .b Bool; .b Text; .a List<R>; .b S", ".a => List<R>\n.b => S\n.b.t => Text")
	wants(t, "{a: Int}; .a Text; .a Int", ".a => Int")
	// A longer front of a type without that field counts for more than a shorter one of a type with it.
	wants(t, "{r: R}; .r R; .r.s Int; .r R", ".r.s.t => field\n.r.s => Int\n.r => R")
}

// P901: nothing of a path is a front, too.
func TestP901NarrowOfNothing(t *testing.T) {
	wants(t, "Opt<R>; -1 R", ". => R\n.v => I\n.n => Opt<R>\n.q => field")
	wants(t, "R; -1 S", ". => S\n.t => Text\n.v => field")
	wants(t, "R; -1 S; -1 Int; -1 S; .t R", ". => S\n.t => R\n.t.v => I\n.b => B")
	wants(t, "R; -1 Int; .s S", ". => Int\n.s => S\n.s.t => Text\n.v => field")
	wants(t, "Int; $x Opt<R>; $y Opt<R>; 0 R", "$x => R\n$x.v => I\n$y => Opt<R>\n$y.v => field\n. => Int")
	wants(t, "Int; $x Opt<R>; $y Opt<R>; 1 S; 1 R", "$x => Opt<R>\n$x.v => field\n$y => R\n$y.v => I")
}

// P901: narrows are of variables' places, or of the dot; not of names, and of no other one.
func TestP901NarrowPlaces(t *testing.T) {
	wants(t, "R; $x R; $y R; $x R; .s Int; 0.v Text; 1.s Bool; 2.v List<R>", `
		.s => Int
		.v => I
		$x.v => List<R>
		$x.s => S
		$y.s => Bool
		$y.v => I`)
	wants(t, "R; $x Int; $x R; 0 S; 0.v Text; 0.s Bool", "$x => R\n$x.v => I\n$x.s => S")
	wants(t, "R; $x Int; $x R; 1 S; 0 Int", "$x => S\n$x.t => Text")
	wants(t, "R; 0 Int; 0.v Text; 1.v Text; -2.v Text; -2 Text", ". => R\n.v => I\n$x => name")
	wants(t, "R; $x R; .v Text; 1.v Text; -2.v Text; 7 Text", "$x => R\n$x.v => I\n.v => Text")
}

// P901: a front is of names, not of bytes, from the first one on.
func TestP901FrontNames(t *testing.T) {
	wants(t, "{a: R, ab: R}; .a S; .ab.v Text", ".a => S\n.ab => R\n.ab.v => Text\n.ab.s => S\n.a.v => field\n.a.b => B")
	wants(t, "R; .n.s Int; .s.n Int; .t Text; .s.t.b Int", ".n => Opt<R>\n.s => S\n.s.t => Text\n.s.b => B\n.t => Text\n.n.s => Int")
	// What a record has not may have a narrow.
	wants(t, "Int; .q R; .a.b.c S; .a.b Int", ". => Int\n.q => R\n.q.v => I\n.a => field\n.a.b => Int\n.a.b.c => S\n.a.b.c.t => Text\n.a.b.d => field")
}

// P901: a function is given its operands' types in order, and last that of the command ahead.
func TestP901Calls(t *testing.T) {
	wants(t, "{a: Opt<Int>, l: List<Text>, m: Map<Int>, o: O, r: R}; $i Int; $t Text; $b Bool", `
		len .l => Int
		.l | len => Int
		at .l 0 => Text
		0 | at .l => Text
		.l | at 0 => type
		at 0 .l => type
		get .m "k" => Opt<Int>
		"k" | get .m => Opt<Int>
		.m | get "k" => type
		orelse .a 5 => Int
		5 | orelse .a => Int
		.a | orelse 5 => type
		has .a => Bool
		.o | has => Bool
		f .o => R
		.r | f => R
		g 1 "a" => L
		"a" | g 1 => L
		1 | g "a" => type
		g (.r | f | len) "a" => type
		g (len .l) (h | len) => type
		h => S
		h | f => type
		k $b $i $t (g 1 "a") => U
		g 1 "a" | k $b $i $t => U
		$t | g $i | k true (add 1 2) (cat "a" "b") => U
		$t | k $b $i (g 1 "a") => type
		cat "a" "b" | cat $t | len | add 1 | lt 2 | not => Bool
		at .l (len .m) => Text
		(at .l 0) => Text
		(.l | len) | add 1 => Int
		5 | text | len | i8 => Int
		len (5 | text) => Int
		.l | len | at .l | len => Int`)
}

// P901: as many arguments as a function takes, the command ahead among them.
func TestP901Args(t *testing.T) {
	wants(t, "{l: List<Int>}; $b Bool; $t Text", `
		len => args
		len .l .l => args
		.l | len .l => args
		.l | len | len .l => args
		h 1 => args
		1 | h => args
		h | h => args
		f => args
		g 1 => args
		1 | g => args
		$t | g 1 $t => args
		k $b 1 $t => args
		k $b 1 $t (g 1 $t) => U
		1 | k $b 1 $t (g 1 $t) => args
		add 1 2 3 4 => args
		5 | add 1 2 3 4 => args
		5 | none => name
		none => name
		none 1 2 3 4 => name
		Len .l => name
		I => name
		data => name`)
}

// P901: an operand that is no name stands first, whatever it is; its own error is ahead of that.
func TestP901First(t *testing.T) {
	for _, s := range []string{".", ".l", "$t", "5", `"a"`, "true", "(5)", "(h)", "(len .l)"} {
		for _, first := range []string{"5", ".", "h", "(h)", "$t | len", "len .l"} {
			wants(t, "{l: List<Int>}; $t Text", first+" | "+s+" => args\n"+first+" | "+s+" | len => args\n("+first+" | "+s+") => args")
		}
	}
	wants(t, "{l: List<Int>}; $t Text", `
		5 | .q => field
		5 | .l.q => field
		5 | $q => name
		5 | $t.q => field
		5 | (none) => name
		5 | (.q) => field
		5 | (len 5) => type
		5 | (5 | 6) => args
		(5) => Int
		(5) | (6) => args`)
}

// P901: errors, the first one in order: of commands, of operands ahead of the function's own.
func TestP901ErrorOrder(t *testing.T) {
	wants(t, "{l: List<Int>}; $t Text", `
		none .q => field
		none $q => name
		none 1 .q $q => field
		add .q $q => field
		add $q .q => name
		add 1 (len 5) => type
		add .q (len 5) => field
		add (len 5) .q => type
		add (len) .q => args
		add (5 | 6) (none) => args
		add (none) (5 | 6) => name
		len .l $q .q => name
		not 5 .q => field
		h .q => field
		.q | none => field
		.q | $q => field
		$q | .q => name
		len 5 | none => type
		len | none => args
		none | len 5 => name
		5 | 6 | none => args
		5 | none | 6 => name
		5 | len | 6 => type
		.q | len .q => field
		5 | none .q => field
		5 | len .l .q => field
		(none | len) | .q => name
		((.q) | none) => field
		(len (add 1 (at .l (none .q)))) => field
		(len (add 1 (at .l (none 5)))) => name
		(len (add 1 (at .l (len 5)))) => type
		(len (add 1 (at .l (len)))) => args
		$t.q | $q => field`)
}

// fill adds records of nothing but {} till just so many more types have room.
func fill(k *cons.Table, room int) {
	for i := 0; k.Len() < api.MaxTypes-room; i++ {
		if _, e := k.Add(api.Type{Kind: api.TRec, Names: []string{"z" + strconv.Itoa(i)}, Kids: []api.Type{{Kind: api.TRec}}}); e != api.OK {
			panic(e.Error())
		}
	}
}

// P901, P5: a full table: ErrBig where a type must be made, ahead of what stands behind, behind what stands ahead; nothing is changed.
func TestP901Big(t *testing.T) {
	for _, x := range []struct{ schema, s, want string }{
		{"{}", "5", "big"}, {"{}", `"a"`, "big"}, {"{}", "true", "big"}, {"{}", "(5)", "big"}, {"{}", ".", "{}"}, {"{}", ".q", "field"}, {"{}", "$q", "name"},
		{"Int", "5", "Int"}, {"Text", `""`, "Text"}, {"Bool", "false", "Bool"}, {"Int", "true", "big"}, {"Int", `"a"`, "big"}, {"Text", "5", "big"},
		{"Int", "add 1 2", "Int"}, {"Int", "lt 1 2", "big"}, {"Int", "1 | text", "big"}, {"Text", "len .", "big"}, {"Text", ". | len", "big"}, {"Text", `cat "a" .`, "Text"},
		{"{}", "5 | 6", "big"}, {"Int", "5 | true", "big"}, {"Int", "5 | 6", "args"}, {"{}", "none 5", "big"}, {"Int", "none 5", "name"}, {"Int", `none 5 "a"`, "big"}, {"Int", `none .q "a"`, "field"}, {"Int", `none "a" .q`, "big"},
		{"Int", `.q | len "a"`, "field"}, {"Int", `len "a" | .q`, "big"}, {"Int", `len 5 | "a"`, "type"}, {"Int", `$q | "a"`, "name"},
		{"{a: Map<{}>, b: Text}", `get .a "k"`, "big"}, {"{a: Map<{}>, b: Text, c: Opt<{}>}", `get .a "k"`, "Opt<{}>"}, {"{a: Map<{}>}", `get .a "k"`, "big"}, {"{a: List<{}>, b: Int}", "at .a 0", "{}"},
		{"{a: Text, b: {}}", "f .b", "{}"}, {"{a: Text, b: {}}", "f 5", "big"}, {"{a: Text, b: {}}", `f "a"`, "type"},
	} {
		k := tabled("data " + x.schema + "; fn f({}) -> {};")
		fill(k, 0)
		for range 2 {
			if got := told(k, Env{Dot: k.Main()}, read(x.s)); got != x.want || k.Len() != api.MaxTypes {
				t.Errorf("%s: %s: %s, not %s, of %d", x.schema, x.s, got, x.want, k.Len())
			}
		}
	}
}

// P901: as many types as have room are made, in order, ahead of ErrBig.
func TestP901LastRoom(t *testing.T) {
	for s, wants := range map[string][]string{
		`len "a" | lt 5`:          {"big", "big", "big", "Bool"},
		`text 5 | len`:            {"big", "big", "Int"},
		`none true 5 "a"`:         {"big", "big", "big", "name"},
		`none true .q 5 "a"`:      {"big", "field"},
		`"a" | none (true) | 5`:   {"big", "big", "name"},
		`"a" | 5`:                 {"big", "big", "args"},
		`5 | text | eq "a" | not`: {"big", "big", "big", "Bool"},
	} {
		for room := range 5 {
			k := tabled("data {};")
			fill(k, room)
			want := wants[min(room, len(wants)-1)]
			if got := told(k, Env{}, read(s)); got != want {
				t.Errorf("%s: %d have room: %s, not %s", s, room, got, want)
			}
			if size := api.MaxTypes - room + min(room, len(wants)-1); k.Len() != size {
				t.Errorf("%s: %d have room: of %d, not %d", s, room, k.Len(), size)
			}
		}
	}
}

// P902: a path alone: the place of its variable, the last of its name, and its names.
func TestP902Paths(t *testing.T) {
	e := Env{Vars: []Var{{Name: "x"}, {Name: "y"}, {Name: "x"}, {Name: "z"}}, Narrows: []Narrow{{Var: -1, Path: []string{"a"}}, {Var: 0}, {Var: 2, Type: 1}}}
	for s, want := range map[string]string{
		".": "-1", ".a": "-1 a", ".a.b": "-1 a b", ".q.q.q": "-1 q q q", ".x": "-1 x", "$x": "2", "$x.a": "2 a", "$y": "1", "$y.a.b.c": "1 a b c", "$z.x.y": "3 x y", "$x.x": "2 x",
	} {
		v, path, ok := Path(e, read(s))
		got := strings.TrimSpace(strconv.Itoa(v) + " " + strings.Join(path, " "))
		if !ok || got != want || len(path) != strings.Count(want, " ") {
			t.Errorf("%s: %s, %v, not %s", s, got, ok, want)
		}
	}
	if v, path, ok := Path(Env{Dot: 900}, read(".a")); !ok || v != -1 || len(path) != 1 {
		t.Errorf("%d, %v, %v", v, path, ok)
	}
	if v, _, ok := Path(Env{Vars: []Var{{Name: "x"}}}, read("$x")); !ok || v != 0 {
		t.Errorf("%d, %v", v, ok)
	}
	// No name stands for the dot, whatever variables there are.
	if v, _, ok := Path(Env{Vars: []Var{{}}}, read(".")); !ok || v != -1 {
		t.Errorf("%d, %v", v, ok)
	}
}

// P902, P4: what is no path alone, or has a variable that there is none of.
func TestP902None(t *testing.T) {
	e := Env{Vars: []Var{{Name: "x"}, {Name: "y"}}}
	for _, s := range []string{"$z", "$z.a", "$X", "$xy", "5", `"a"`, "true", "h", "len", "(.)", "(.a)", "($x)", "((.))", "len .", ".a | len", ". | .", ".a | .b", "$x | $y", "h | .a", "h .a", "none $x"} {
		if v, path, ok := Path(e, read(s)); ok || v != 0 || len(path) != 0 {
			t.Errorf("%s: %d, %v, %v", s, v, path, ok)
		}
	}
	if _, _, ok := Path(Env{}, read("$x")); ok {
		t.Error("there is no variable")
	}
}

// P903: a pipeline has one type in one Env, whatever else is asked of the table between.
func TestP903OneType(t *testing.T) {
	k := tabled(names)
	e := envOf(k, "R; $x R; $x Opt<R>; $l List<Text>; 1 R; .s S; .s.t Text")
	l := strings.Fields(`. .n .s .s.t .s.b .v $x $x.n $x.s.t $l len;$l $l|len at;$l;0 h f;. g;1;"a" f;.n get;$l;"a" text;.v has;.n orelse;.n;. 5 true none .q`)
	first := map[string]int{}
	for range 3 {
		for _, s := range l {
			s = strings.ReplaceAll(s, ";", " ")
			id, err := Of(k, e, read(s))
			if err != api.OK {
				id = -int(err)
			}
			if was, ok := first[s]; ok && was != id {
				t.Errorf("%s: %d, then %d", s, was, id)
			}
			first[s] = id
		}
	}
	if len(first) < 20 || k.Len() >= api.MaxTypes {
		t.Errorf("%d, of %d", len(first), k.Len())
	}
}
