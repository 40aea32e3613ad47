package pipe

import (
	"math"
	"reflect"
	"slices"
	"strings"
	"testing"
	"unsafe"

	"sprue/api"
	"sprue/cons"
	"sprue/sch"
)

// value is a command of one operand.
func value(o api.Operand) api.Command { return api.Command{Ops: []api.Operand{o}} }

func called(name string, ops ...api.Operand) api.Command {
	return api.Command{Ops: append([]api.Operand{{Kind: api.OCall, S: name}}, ops...)}
}

func path(v string, names ...string) api.Operand {
	return api.Operand{Kind: api.OPath, Var: v, Path: names}
}

func whole(n int64) api.Operand { return api.Operand{Kind: api.OInt, N: n} }

func in(p ...api.Command) api.Operand { return api.Operand{Kind: api.OPipe, Pipe: p} }

// ended asks all that may be asked of a pipeline; nothing stands beside what is refused.
func ended(t *testing.T, k *cons.Table, e Env, p []api.Command) api.Errno {
	t.Helper()
	id, err := Of(k, e, p)
	if err != api.OK && id != 0 {
		t.Errorf("%d beside %v", id, err)
	}
	if again, wrong := Of(k, e, p); again != id || wrong != err {
		t.Errorf("%d, %v, then %d, %v", id, err, again, wrong)
	}
	if v, l, ok := Path(e, p); !ok && (v != 0 || len(l) != 0) {
		t.Errorf("%d, %v beside false", v, l)
	}
	return err
}

// odd makes pipelines that no source is read as.
func odd(d *dice, deep int) []api.Command {
	var p []api.Command
	for range d.below(4) {
		var c api.Command
		for range d.below(5) {
			o := api.Operand{Kind: pick(d, []int{0, 1, 1, 2, 3, 4, 5, 5, 6, 6, 6, 7, -1, 1 << 40, math.MinInt}), Var: pick(d, []string{"", "x", "$", "\xff"}), S: pick(d, []string{"", "len", "f", "h", "len\x00", "R", "."}), N: int64(d.below(3)), B: d.below(2) == 0}
			for range d.below(3) {
				o.Path = append(o.Path, pick(d, []string{"", ".", "n", "s", "v"}))
			}
			if deep > 0 {
				o.Pipe = odd(d, deep-1)
			}
			c.Ops = append(c.Ops, o)
		}
		p = append(p, c)
	}
	return p
}

// oddEnv is one of numbers that may be no type's, and of places that may be none.
func oddEnv(d *dice, k *cons.Table) Env {
	far := []int{0, 1, 2, 3, 5, 8, -1, -2, k.Len() - 1, k.Len(), api.MaxTypes, 1 << 32, math.MinInt, math.MaxInt}
	e := Env{Dot: pick(d, far)}
	for range d.below(4) {
		e.Vars = append(e.Vars, Var{pick(d, []string{"x", "", "$", "\xff"}), pick(d, far)})
	}
	for range d.below(5) {
		e.Narrows = append(e.Narrows, Narrow{pick(d, far), [][]string{nil, {}, {"n"}, {"s", "v"}, {""}}[d.below(5)], pick(d, far)})
	}
	return e
}

// P1, P8: pipelines and Envs of any making: every call ends, and makes nothing beside what is of no parts, and Opts.
func TestP8Odd(t *testing.T) {
	d := dice(3)
	for range 6000 {
		k := tabled(names)
		size := k.Len()
		ended(t, k, oddEnv(&d, k), odd(&d, 3))
		for id := size; id < k.Len(); id++ {
			if n, _ := k.Node(id); n.Kind > api.TText && n.Kind != api.TOpt {
				t.Fatalf("made %s", sch.TypeText(k.Type(id)))
			}
		}
	}
}

// P8: what no source is read as is refused.
func TestP8NoSource(t *testing.T) {
	k := tabled(names)
	for i, p := range [][]api.Command{
		nil, {}, {{}}, {{Ops: []api.Operand{}}}, {value(whole(1)), {}}, {value(in())}, {value(in(api.Command{}))}, {called("len", in())},
		{{Ops: []api.Operand{whole(1), whole(2)}}}, {{Ops: []api.Operand{path(""), whole(2)}}}, {called("len", api.Operand{Kind: api.OCall, S: "h"})},
		{value(api.Operand{})}, {value(api.Operand{Kind: -1})}, {value(api.Operand{Kind: 7})}, {value(api.Operand{Kind: 1 << 32})}, {value(api.Operand{Kind: 1<<32 + api.OInt})}, {called("len", api.Operand{Kind: 7})},
	} {
		if e := ended(t, k, Env{}, p); e == api.OK {
			t.Errorf("%d: it is typed", i)
		}
		if _, _, ok := Path(Env{}, p); ok {
			t.Errorf("%d: it is a path", i)
		}
	}
}

// P8: numbers that are no type's have no fields, and fit nowhere.
func TestP8Numbers(t *testing.T) {
	for _, far := range []int{-1, -2, api.MaxTypes, 1 << 8, 1 << 16, 1 << 32, 1<<32 + 4, math.MinInt, math.MaxInt, math.MinInt32} {
		k := tabled(names)
		for _, e := range []Env{{Dot: far, Vars: []Var{{"x", far}}}, {Narrows: []Narrow{{Var: -1, Type: far}, {Var: 0, Type: far}}, Vars: []Var{{"x", 0}}}} {
			for _, s := range []string{".v", "$x.v", "len .", "$x | len", "f $x", ". | has", "orelse . $x"} {
				if got := told(k, e, read(s)); got != "field" && got != "type" {
					t.Errorf("%d: %s: %s", far, s, got)
				}
			}
			ended(t, k, e, read("."))
			ended(t, k, e, read("$x"))
		}
		// A narrow of no place is of nothing.
		r := added(k, "R")
		e := Env{Dot: r, Vars: []Var{{"x", r}}}
		for _, at := range []int{far, -2, 1, 2} {
			if at != -1 {
				e.Narrows = append(e.Narrows, Narrow{at, nil, added(k, "S")}, Narrow{at, []string{"v"}, r})
			}
		}
		for s, want := range map[string]string{".": "R", ".v": "I", "$x": "R", "$x.v": "I"} {
			if got := told(k, e, read(s)); got != want {
				t.Errorf("%d: %s: %s", far, s, got)
			}
		}
	}
}

// P1: a table that nothing was put in.
func TestP1EmptyTable(t *testing.T) {
	for s, want := range map[string]string{".v": "field", "$x": "name", "len .": "type", "f .": "name", "5": "Int", "add 1 2": "Int", `len "a" | lt 1`: "Bool"} {
		if got := told(&cons.Table{}, Env{}, read(s)); got != want {
			t.Errorf("%s: %s", s, got)
		}
	}
}

// P1: pipelines far deeper, wider and longer than any that is read, and such as hold themselves.
func TestP1Endless(t *testing.T) {
	k := tabled(names)
	r := added(k, "R")
	e := Env{Dot: r, Narrows: []Narrow{{Var: -1, Path: []string{"n"}, Type: r}}}
	deep := []api.Command{value(whole(1))}
	for range 1 << 20 {
		deep = []api.Command{value(in(deep...))}
	}
	ended(t, k, e, deep)
	// Each is twice in the next one.
	twice := []api.Command{value(whole(1))}
	for range 100 {
		twice = []api.Command{called("add", in(twice...), in(twice...))}
	}
	ended(t, k, e, twice)
	for _, n := range []int{1, 2, 3000} {
		p := make([]api.Command, n)
		q := make([]api.Command, n)
		for i := range p {
			p[i], q[i] = called("i8", in(p...)), called("f", path(""))
		}
		for i := range q {
			q[i].Ops[1] = in(p...)
			p[i].Ops[1] = in(p...)
		}
		p[0] = value(api.Operand{Kind: api.OPipe, Pipe: p})
		q[0].Ops = append(slices.Repeat([]api.Operand{path(""), path("", "n")}, n), in(q...))
		ended(t, k, e, p)
		ended(t, k, e, q)
		ended(t, k, e, []api.Command{called("none", in(q...), in(p...))})
	}
	ended(t, k, e, slices.Repeat([]api.Command{called("h")}, 1<<18))
	ended(t, k, e, []api.Command{called("h", make([]api.Operand, 1<<20)...)})
	ended(t, k, e, []api.Command{called("len", slices.Repeat([]api.Operand{path("", "v")}, 1<<20)...)})
	long := slices.Repeat([]string{"n"}, 1<<20)
	if e := ended(t, k, e, []api.Command{value(path("", long...))}); e != api.ErrField {
		t.Error(e)
	}
	e.Narrows = append(e.Narrows, Narrow{-1, long, added(k, "S")}, Narrow{-1, long[1:], r})
	if got := told(k, e, []api.Command{value(path("", append(long, "b")...))}); got != "B" {
		t.Error(got)
	}
}

// P901: pipelines larger than those of a source are answered, as far as they are far from endless.
func TestP901BeyondSources(t *testing.T) {
	k := tabled(names)
	p := append([]api.Command{value(whole(1))}, slices.Repeat([]api.Command{called("i8")}, 2000)...)
	deep := p
	for range 600 {
		deep = []api.Command{value(in(deep...))}
	}
	for _, p := range [][]api.Command{p, deep} {
		if got := told(k, Env{}, p); got != "Int" {
			t.Error(got)
		}
	}
}

// P901: as deep, and as many words, as a source has.
func TestP901AsSources(t *testing.T) {
	k := tabled(names)
	e := envOf(k, "R; $x Int; .n R; .n.n R; .n.n.n R")
	for s, want := range map[string]string{
		strings.Repeat("(", 12) + ".n.n.n.v" + strings.Repeat(")", 12):  "I",
		"1" + strings.Repeat(" | i8", 199):                              "Int",
		"1" + strings.Repeat(" | add 1", 132):                           "Int",
		"1" + strings.Repeat(" | add (i8 1)", 66):                       "Int",
		".n" + strings.Repeat(".n", 2) + ".s.t | len | lt (1 | add $x)": "Bool",
	} {
		if got := told(k, e, read(s)); got != want {
			t.Errorf("%s: %s", s, got)
		}
	}
}

// clonedEnv, cloned are such as share no list with what they are like.
func clonedEnv(e Env) Env {
	e.Vars, e.Narrows = slices.Clone(e.Vars), slices.Clone(e.Narrows)
	for i, n := range e.Narrows {
		e.Narrows[i].Path = slices.Clone(n.Path)
	}
	return e
}

func cloned(p []api.Command) []api.Command {
	p = slices.Clone(p)
	for i, c := range p {
		p[i].Ops = slices.Clone(c.Ops)
		for j, o := range p[i].Ops {
			p[i].Ops[j].Path, p[i].Ops[j].Pipe = slices.Clone(o.Path), cloned(o.Pipe)
		}
	}
	return p
}

// roomy has spare room, with something in it, behind each of its lists.
func roomy(e Env, p []api.Command) (Env, []api.Command) {
	e, p = clonedEnv(e), cloned(p)
	for i, n := range e.Narrows {
		e.Narrows[i].Path = append(n.Path, "spare", "room")[:len(n.Path)]
	}
	e.Vars = append(e.Vars, Var{"spare", 77}, Var{"x", 78})[:len(e.Vars)]
	e.Narrows = append(e.Narrows, Narrow{-1, nil, 77}, Narrow{0, nil, 78})[:len(e.Narrows)]
	for i, c := range p {
		p[i].Ops = append(c.Ops, whole(77), whole(78))[:len(c.Ops)]
		for j, o := range c.Ops {
			p[i].Ops[j].Path = append(o.Path, "spare", "room")[:len(o.Path)]
		}
	}
	return e, append(p, value(whole(77)), value(whole(78)))[:len(p)]
}

// all are the lists of an Env and a pipeline, with what stands in their spare room.
func all(e Env, p []api.Command) []any {
	e, p = clonedEnv(Env{e.Dot, e.Vars[:cap(e.Vars)], e.Narrows[:cap(e.Narrows)]}), p[:cap(p)]
	l := []any{e, cloned(p)}
	for _, n := range e.Narrows {
		l = append(l, slices.Clone(n.Path[:cap(n.Path)]))
	}
	for _, c := range p {
		l = append(l, slices.Clone(c.Ops[:cap(c.Ops)]))
		for _, o := range c.Ops {
			l = append(l, slices.Clone(o.Path[:cap(o.Path)]))
		}
	}
	return l
}

const env = "R; $x R; $y Opt<R>; $x R; -1 R; .n R; .n.s S; 2.n R; 2.n.n R; 1 R; 1.s Int"

var asks = []string{".", ".n.s.t", "$x", "$x.n.n.v", "$y.s", "$y.n.v", "$z", "$x.q", "5 | 6", "1 | add $y.s | lt 2", "g .v .n.s.t | len", "f $y", "none .n", "h", "($x.n | f)", "k .s.b 1", "5", `cat "a" (text 5)`}

// P2: what is handed in, its spare room too, is not changed, and what stands there counts for nothing.
func TestP2HandedIn(t *testing.T) {
	for _, s := range asks {
		k, other := tabled(names), tabled(names)
		first, p := envOf(k, env), read(s)
		envOf(other, env)
		e, q := roomy(first, p)
		was := all(e, q)
		got, want := told(k, e, q), told(other, first, p)
		v, l, ok := Path(e, q)
		w, m, is := Path(first, p)
		if got != want || v != w || !slices.Equal(l, m) || ok != is {
			t.Errorf("%s: %s, %d, %v, %v, not %s, %d, %v, %v", s, got, v, l, ok, want, w, m, is)
		}
		if !reflect.DeepEqual(all(e, q), was) {
			t.Errorf("%s: what was handed in is changed", s)
		}
	}
}

// P2: what is handed in is not kept: it may be changed behind the call.
func TestP2NotKept(t *testing.T) {
	for _, s := range asks {
		k := tabled(names)
		e, p := roomy(envOf(k, env), read(s))
		f, q := clonedEnv(e), cloned(p)
		first := told(k, e, p)
		for i := range e.Narrows {
			e.Narrows[i].Path = append(e.Narrows[i].Path[:0], "other")
			e.Narrows[i] = Narrow{0, nil, 5}
		}
		for i := range e.Vars {
			e.Vars[i] = Var{"other", 5}
		}
		for i, c := range p {
			for j := range c.Ops {
				c.Ops[j] = whole(9)
			}
			p[i] = value(whole(9))
		}
		if again := told(k, f, q); again != first {
			t.Errorf("%s: %s, then %s", s, first, again)
		}
	}
}

// P2: Path's answer is new memory, its spare room and its names too; two answers share none.
func TestP2NewMemory(t *testing.T) {
	room := append(make([]string, 0, 9), strings.Clone("abc"), strings.Clone("def"))
	l := []api.Command{value(path(""))}
	for range 3 {
		for n := range 3 {
			l[0].Ops[0].Path = room[:n]
			_, got, ok := Path(Env{}, l)
			_, again, _ := Path(Env{}, l)
			if !ok || !slices.Equal(got, room[:n]) || !slices.Equal(again, got) {
				t.Fatalf("%v, %v, %v", got, again, ok)
			}
			for i, x := range got {
				if unsafe.StringData(x) == unsafe.StringData(room[i]) {
					t.Errorf("%s is that of the pipeline", x)
				}
			}
			got = got[:cap(got)]
			for i := range got {
				got[i] = "changed"
			}
			if !slices.Equal(room[:9], []string{"abc", "def", "", "", "", "", "", "", ""}) || !slices.Equal(again, room[:n]) {
				t.Errorf("%v, %v", room[:9], again)
			}
		}
	}
}

// P2: no list and an empty one are the same.
func TestP2Empty(t *testing.T) {
	k := tabled(names)
	r, s := added(k, "R"), added(k, "S")
	for _, none := range [][]string{nil, {}, strings.Fields("a b")[:0]} {
		for _, other := range [][]string{nil, {}, strings.Fields("a b")[:0]} {
			e := Env{Dot: r, Narrows: []Narrow{{-1, none, s}}}
			if got := told(k, e, []api.Command{value(path("", other...))}); got != "S" {
				t.Error(got)
			}
			if v, l, ok := Path(e, []api.Command{value(path("", other...))}); v != -1 || len(l) != 0 || !ok {
				t.Errorf("%d, %v, %v", v, l, ok)
			}
		}
	}
	for _, e := range []Env{{Dot: r}, {Dot: r, Vars: []Var{}, Narrows: []Narrow{}}} {
		if got := told(k, e, read(".v")) + told(k, e, read("$x")); got != "Iname" {
			t.Error(got)
		}
	}
	if Of(k, Env{}, nil); ended(t, k, Env{}, nil) != ended(t, k, Env{}, []api.Command{}) {
		t.Error("not alike")
	}
}

// P3, P7: two tables of one schema answer the same calls alike, whatever a third was asked.
func TestP3TwoTables(t *testing.T) {
	for i := range 200 {
		x, y, z := making(names, i), making(names, i), making(bare, i)
		made := making(names, i)
		for range 20 {
			p := read(made.pipe(1+made.d.below(7), made.d.below(4)))
			id, e := Of(x.k, x.e, p)
			Of(z.k, z.e, p)
			if got, err := Of(y.k, y.e, p); got != id || err != e {
				t.Fatalf("%d, %v, not %d, %v", got, err, id, e)
			}
		}
		same(t, "all", x.k, y.k)
	}
}

// P5: what is refused leaves all types as they were, and makes none but those of operands ahead.
func TestP5Refused(t *testing.T) {
	for _, s := range []string{".q", "$q", "none", "none .n", "len", ".n.q", "$x | .v", ". | none", "f $x $x", "len .v", "(len .v)", "f .v", "get .n .v", "not .v", ". | ."} {
		k := tabled(names)
		e := envOf(k, env)
		was := types(k)
		for range 2 {
			if got := ended(t, k, e, read(s)); got == api.OK {
				t.Errorf("%s is typed", s)
			}
		}
		if !reflect.DeepEqual(types(k), was) {
			t.Errorf("%s: the table is changed", s)
		}
	}
}

// types are all types of a table.
func types(k *cons.Table) []string {
	var l []string
	for id := range k.Len() {
		l = append(l, sch.TypeText(k.Type(id)))
	}
	return l
}
