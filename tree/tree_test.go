package tree

import (
	"reflect"
	"strconv"
	"strings"
	"testing"

	"sprue/api"
)

// alike asks every field; no list and an empty one are the same.
func alike(a, b any) bool {
	return alikeValues(reflect.ValueOf(a), reflect.ValueOf(b))
}

func alikeValues(a, b reflect.Value) bool {
	switch a.Kind() {
	case reflect.Slice:
		if a.Len() != b.Len() {
			return false
		}
		for i := range a.Len() {
			if !alikeValues(a.Index(i), b.Index(i)) {
				return false
			}
		}
		return true
	case reflect.Struct:
		for i := range a.NumField() {
			if !alikeValues(a.Field(i), b.Field(i)) {
				return false
			}
		}
		return true
	}
	return a.Interface() == b.Interface()
}

func fn(name string) api.Operand { return api.Operand{Kind: api.OCall, S: name} }

func txt(s string) api.Operand { return api.Operand{Kind: api.OText, S: s} }

func num(n int64) api.Operand { return api.Operand{Kind: api.OInt, N: n} }

func yes(b bool) api.Operand { return api.Operand{Kind: api.OBool, B: b} }

// dot is a path from the dot, fields parted by blanks; of one from a variable.
func dot(fields string) api.Operand { return of("", fields) }

func of(variable, fields string) api.Operand {
	return api.Operand{Kind: api.OPath, Var: variable, Path: strings.Fields(fields)}
}

// in is a pipeline in brackets.
func in(p ...api.Command) api.Operand { return api.Operand{Kind: api.OPipe, Pipe: p} }

func cmd(ops ...api.Operand) api.Command { return api.Command{Ops: ops} }

func pipe(c ...api.Command) []api.Command { return c }

// value is a pipeline of one operand.
func value(o api.Operand) []api.Command { return pipe(cmd(o)) }

// wantPipe fails unless s is just that pipeline.
func wantPipe(t *testing.T, s string, want ...api.Command) {
	t.Helper()
	got, e := Pipe(s)
	if e != api.OK || !alike(got, want) {
		t.Errorf("%.80q: %+v, %v; want %+v", s, got, e, want)
	}
}

// wantPipeError fails unless s is refused with that error and nothing beside it; OK: unless it is none.
func wantPipeError(t *testing.T, s string, want api.Errno) {
	t.Helper()
	got, e := Pipe(s)
	if e != want || e != api.OK && len(got) > 0 {
		t.Errorf("%.80q: %+v, %v; want %v", s, got, e, want)
	}
}

func wantTemplates(t *testing.T, s string, want ...api.Template) {
	t.Helper()
	got, at, e := Parse(s)
	if e != api.OK || at != 0 || !alike(got, want) {
		t.Errorf("%.80q: %+v, %d, %v; want %+v", s, got, at, e, want)
	}
}

// wantNodes fails unless s is a whole of just these nodes, and defines nothing.
func wantNodes(t *testing.T, s string, want ...api.Node) {
	t.Helper()
	wantTemplates(t, s, api.Template{Body: want})
}

func wantFault(t *testing.T, s string, at int, want api.Errno) {
	t.Helper()
	got, place, e := Parse(s)
	if e != want || place != at || e != api.OK && len(got) > 0 {
		t.Errorf("%.80q: %+v, %d, %v; want %d, %v", s, got, place, e, at, want)
	}
}

// P701: every kind of operand, alone and behind a name.
func TestP701Operands(t *testing.T) {
	for s, o := range map[string]api.Operand{
		".": dot(""), ".a": dot("a"), ".a.b._c1": dot("a b _c1"), "$x": of("x", ""), "$x.a": of("x", "a"), "$x.a.b": of("x", "a b"),
		"0": num(0), "-0": num(0), "007": num(7), "9223372036854775807": num(1<<63 - 1), "-9223372036854775808": num(-1 << 63),
		"true": yes(true), "false": yes(false), `""`: txt(""), `"a b"`: txt("a b"), `"\\\"\n\t"`: txt("\\\"\n\t"), "\"\xff\x7f\"": txt("\xff\x7f"), `"}}"`: txt("}}"),
		`"if"`: txt("if"), `"true"`: txt("true"), `"."`: txt("."), `"$"`: txt("$"), `"("`: txt("("), `")"`: txt(")"), `"|"`: txt("|"), `":="`: txt(":="),
		"(.)": in(cmd(dot(""))), "(f)": in(cmd(fn("f"))), "((1))": in(cmd(in(cmd(num(1))))), "(f 1|g)": in(cmd(fn("f"), num(1)), cmd(fn("g"))),
	} {
		wantPipe(t, s, cmd(o))
		wantPipe(t, "f "+s, cmd(fn("f"), o))
		wantPipe(t, "(g "+s+") | f (1) "+s, cmd(in(cmd(fn("g"), o))), cmd(fn("f"), in(cmd(num(1))), o))
		wantPipeError(t, s+" 1", api.ErrForm)
		wantPipeError(t, s+" f", api.ErrForm)
	}
	wantPipe(t, "f", cmd(fn("f")))
	wantPipe(t, "abcdefghijklmnop", cmd(fn("abcdefghijklmnop")))
}

// P701: pipelines of several commands.
func TestP701Commands(t *testing.T) {
	wantPipe(t, "f|g|h", cmd(fn("f")), cmd(fn("g")), cmd(fn("h")))
	wantPipe(t, "1|2", cmd(num(1)), cmd(num(2)))
	wantPipe(t, ".a | f .b 1 | g \"x\"", cmd(dot("a")), cmd(fn("f"), dot("b"), num(1)), cmd(fn("g"), txt("x")))
	wantPipe(t, "f 1-2", cmd(fn("f"), num(1), num(-2)))
	wantPipe(t, " \t\n\rf \t\n\r( \t\n\r1 \t\n\r) \t\n\r| \t\n\rg \t\n\r", cmd(fn("f"), in(cmd(num(1)))), cmd(fn("g")))
	for _, s := range []string{"|", "f|", "|f", "f||g", "f | | g", "f |)", "(f|)"} {
		wantPipeError(t, s, api.ErrForm)
	}
}

// P701: which dots and names are one path.
func TestP701Paths(t *testing.T) {
	for s, ops := range map[string][]api.Operand{
		".a.b": {dot("a b")}, ".a .b": {dot("a"), dot("b")}, ". .a": {dot(""), dot("a")}, "..a": {dot(""), dot("a")}, ".a.": {dot("a"), dot("")}, ".a..b": {dot("a"), dot(""), dot("b")},
		"$x.a": {of("x", "a")}, "$x .a": {of("x", ""), dot("a")}, "$ x.a": {of("x", "a")}, "$\nx\t.a.b": {of("x", ""), dot("a b")}, "$x.": {of("x", ""), dot("")}, "$x..a": {of("x", ""), dot(""), dot("a")},
		"$x$y": {of("x", ""), of("y", "")}, ".a$y.b": {dot("a"), of("y", "b")}, ". true": {dot(""), yes(true)}, ".true": {dot("true")}, ".a.false": {dot("a false")}, ".a true": {dot("a"), yes(true)},
		".a\n.b": {dot("a"), dot("b")}, "1.a": {num(1), dot("a")}, "\"x\".a": {txt("x"), dot("a")}, "(1).a": {in(cmd(num(1))), dot("a")}, "true.a": {yes(true), dot("a")}, "...": {dot(""), dot(""), dot("")},
	} {
		wantPipe(t, "f "+s, cmd(append([]api.Operand{fn("f")}, ops...)...))
		if s[0] == '.' || s[0] == '$' { // a function's name has no fields
			wantPipe(t, "f"+s, cmd(append([]api.Operand{fn("f")}, ops...)...))
		}
		if len(ops) > 1 {
			wantPipeError(t, s, api.ErrForm)
		} else {
			wantPipe(t, s, cmd(ops...))
		}
	}
	for _, s := range []string{". a", ".a. b", ".a b", "$x. a", "$", "$.", "$.a", "$5", "$\"a\"", "$(x)", "$$x", "$x.5", ".5", ".\"a\"", "$x y", "f . a", "f .a. b", "f $", "f $ | g", "(.a. b)"} {
		wantPipeError(t, s, api.ErrForm)
	}
}

// P701: which words are no functions' names; as variables and fields all are.
func TestP701Verbs(t *testing.T) {
	for _, w := range strings.Fields("if with range match else end case template define") {
		for _, s := range []string{w, w + " .", "f " + w, "(" + w + ")", "f | " + w, w + " \"a\"", w + " a"} {
			wantPipeError(t, s, api.ErrForm)
		}
	}
	for _, w := range strings.Fields("if with range match else end case template define true false") {
		wantPipe(t, "."+w+"."+w, cmd(dot(w+" "+w)))
		wantPipe(t, "f $"+w+"."+w, cmd(fn("f"), of(w, w)))
		for _, near := range []string{w + "x", "x" + w, w + "_", w + "1", strings.ToUpper(w)} {
			wantPipe(t, near+" 1", cmd(fn(near), num(1)))
		}
	}
	wantPipeError(t, "true false", api.ErrForm)
	wantPipeError(t, "false f", api.ErrForm)
}

// P701: words that stand where they may not.
func TestP701Form(t *testing.T) {
	for _, s := range strings.Split("| |f g|f ()|()|f ( )|(f|f)|)|(|(()|(f))|f := 1|$x := 1|$x = 1|.a = 1|f, g|f{|}|<|>|f;|->|:|=|1 2|\"a\" \"b\"|(f) 1|(f) g|f (g|f 1 (|1 2 3 4 5 6", "|") {
		wantPipeError(t, s, api.ErrForm)
	}
	for _, s := range []string{"", " ", "\n\t\r "} {
		wantPipeError(t, s, api.ErrForm)
	}
}

// P701: the words' errors stand ahead of all others.
func TestP701ScanErrors(t *testing.T) {
	deep := strings.Repeat("(", 13)
	for _, s := range []string{"1 2 ", deep, "f 1 2 3 4 5 ", "f ", "if ", ") "} {
		wantPipeError(t, s+"@", api.ErrToken)
		wantPipeError(t, s+"\"a", api.ErrToken)
		wantPipeError(t, s+"abcdefghijklmnopq", api.ErrLong)
		wantPipeError(t, s+strings.Repeat(" ", api.MaxSource), api.ErrLong)
		wantPipeError(t, s+strings.Repeat("1 ", 401), api.ErrMany)
	}
	wantPipeError(t, strings.Repeat("f|", 199)+"f 1", api.OK)
	wantPipeError(t, strings.Repeat("f|", 200)+"f", api.ErrMany)
}

// P701: as many brackets as may be, and one more, wherever they stand.
func TestP701Deep(t *testing.T) {
	nest := func(n int, s string) string { return strings.Repeat("(", n) + s + strings.Repeat(")", n) }
	for _, s := range []string{".", "f 1 2 3 4", "f | g", "(1)"} {
		n := 12 - strings.Count(s, "(")
		wantPipeError(t, nest(n, s), api.OK)
		wantPipeError(t, "f "+nest(n, s)+" "+nest(n, s)+"|g"+nest(n, s), api.OK)
		wantPipeError(t, nest(n+1, s), api.ErrDeep)
		wantPipeError(t, "f "+nest(n, s)+" "+nest(n+1, s), api.ErrDeep)
		wantPipeError(t, "g | f "+nest(n+1, s), api.ErrDeep)
	}
	open := strings.Repeat("(", 12)
	for s, want := range map[string]api.Errno{
		open: api.ErrForm, open + "(": api.ErrDeep, open + "(((": api.ErrDeep, open + "()": api.ErrDeep, open + "(if": api.ErrDeep, open + ") (": api.ErrForm, open + "1 (": api.ErrForm, open + "if (": api.ErrForm, open + "f (": api.ErrDeep, open + "f | (": api.ErrDeep,
		open + "1) (": api.ErrForm, open + "f) | (1)": api.ErrForm, strings.Repeat("(", 11) + "f (1) (2)" + strings.Repeat(")", 11): api.OK, strings.Repeat("(f ", 12) + "(": api.ErrDeep, "1 2 " + open + "(": api.ErrForm, "f 1 2 3 4 " + open + "(": api.ErrArgs,
	} {
		wantPipeError(t, s, want)
	}
}

// P701: as many operands as may be, and one more: told where it begins.
func TestP701Args(t *testing.T) {
	kinds := []string{".", ".a", "$x", "1", "\"a\"", "true", "(f)", "(f 1 2 3 4)"}
	for _, k := range kinds {
		for _, s := range []string{"f " + k + " 1 2 " + k, "(f 1 " + k + " 2 3)", ". | f 1 2 3 " + k + " | g 1 2 3 4"} {
			wantPipeError(t, s, api.OK)
		}
		for _, s := range []string{"f 1 2 3 4 " + k, "f " + k + " " + k + " 1 " + k + " " + k, "g 1 | (f 1 2 3 4 " + k + ")", "f 1 2 3 4 " + k + " )", "f 1 2 3 4 " + k + " if"} {
			wantPipeError(t, s, api.ErrArgs)
		}
	}
	deep := strings.Repeat("(", 12)
	for s, want := range map[string]api.Errno{
		"f 1 2 3 4 $": api.ErrArgs, "f 1 2 3 4 (": api.ErrArgs, "f 1 2 3 4 ()": api.ErrArgs, "f 1 2 3 $": api.ErrForm, "f 1 2 3 (": api.ErrForm, "f 1 2 3 4 )": api.ErrForm, "f 1 2 3 4 g 5": api.ErrForm, "f 1 2 3 4 = 5": api.ErrForm, "f 1 2 3 (g 1 2 3 4 5": api.ErrArgs,
		deep + "f 1 2 3 4 (": api.ErrArgs, deep + "f 1 2 3 (": api.ErrDeep, "f 1 2 3 4 " + deep + "(": api.ErrArgs, "f 1 2 3 ) 4 5": api.ErrForm, "f 1 2 3 4 . a": api.ErrArgs, "f .a .b.c . .d": api.OK, "f .a .b.c . .d.e .": api.ErrArgs,
	} {
		wantPipeError(t, s, want)
	}
}

// P701: how each kind is written.
func TestP701PipeText(t *testing.T) {
	for want, o := range map[string]api.Operand{
		".": dot(""), ".a.b": dot("a b"), "$x": of("x", ""), "$x.a.b": of("x", "a b"), "0": num(0), "-9223372036854775808": num(-1 << 63), "9223372036854775807": num(1<<63 - 1), "true": yes(true), "false": yes(false),
		`""`: txt(""), `"a\\\"\n\tb"`: txt("a\\\"\n\tb"), `"\\n"`: txt(`\n`), `"\\\\\""`: txt(`\\"`), "\"\xff\x7fé\"": txt("\xff\x7fé"), "f": fn("f"), "(f)": in(cmd(fn("f"))), "((. | f 1))": in(cmd(in(cmd(dot("")), cmd(fn("f"), num(1))))),
	} {
		for s, p := range map[string][]api.Command{
			want: value(o), "f " + want: pipe(cmd(fn("f"), o)), want + " | " + want: pipe(cmd(o), cmd(o)), "g " + want + " (f " + want + ") . | " + want: pipe(cmd(fn("g"), o, in(cmd(fn("f"), o)), dot("")), cmd(o)),
		} {
			if got := PipeText(p); got != s {
				t.Errorf("%q; want %q", got, s)
			}
		}
	}
	if PipeText(nil) != "" || PipeText([]api.Command{}) != "" {
		t.Error("no commands: not empty")
	}
	wantText := func(s, want string) {
		p, e := Pipe(s)
		if got := PipeText(p); e != api.OK || got != want {
			t.Errorf("%q: %q, %v; want %q", s, got, e, want)
		}
	}
	wantText("f\n.a.b.|g( $ x.c|h )\"\\t\"|-007", "f .a.b . | g ($x.c | h) \"\\t\" | -7")
	wantText("f..a", "f . .a")
}

// operands are different ones.
func operands() []api.Operand {
	return []api.Operand{
		dot(""), dot("a"), dot("b"), dot("a b"), dot("b a"), of("a", ""), of("b", ""), of("a", "a"), of("a", "a b"), txt(""), txt("a"), txt("b"), num(0), num(1), num(-1), yes(true), yes(false), fn("a"), fn("b"),
		in(cmd(dot(""))), in(cmd(dot("a"))), in(cmd(fn("a"))), in(cmd(fn("a"), num(1))), in(cmd(fn("a")), cmd(fn("a"))), in(cmd(in(cmd(dot(""))))),
	}
}

// P701: operands are the same just if their kinds, and what these name, are.
func TestP701SamePipe(t *testing.T) {
	all := [][]api.Command{nil, pipe(cmd(fn("a")), cmd(fn("a"))), pipe(cmd(fn("a")), cmd(fn("b"))), pipe(cmd(fn("b")), cmd(fn("a"))), pipe(cmd(fn("a"), num(1)), cmd(fn("a"))), pipe(cmd(fn("a")), cmd(fn("a"), num(1))), pipe(cmd(fn("a"), num(1), num(2))), pipe(cmd(fn("a"), num(2), num(1)))}
	for _, o := range operands() {
		all = append(all, value(o), pipe(cmd(o), cmd(fn("f"))))
		if o.Kind != api.OCall {
			all = append(all, pipe(cmd(fn("f"), o)))
		}
	}
	for i, a := range all {
		for k, b := range all {
			if SamePipe(a, b) != (i == k) {
				t.Errorf("%s, %s", PipeText(a), PipeText(b))
			}
		}
		if i > 0 {
			again, e := Pipe(PipeText(a))
			if e != api.OK || !SamePipe(a, again) {
				t.Errorf("%s: not again", PipeText(a))
			}
		}
	}
	if !SamePipe(nil, []api.Command{}) || !SamePipe(pipe(api.Command{}), pipe(api.Command{Ops: []api.Operand{}})) || !SamePipe(value(api.Operand{Kind: api.OPath}), value(dot(""))) {
		t.Error("no list and an empty one: not the same")
	}
}

// P701: what a kind does not name is not asked.
func TestP701SameAsksWhatIsNamed(t *testing.T) {
	odd := api.Operand{Var: "v", Path: []string{"p"}, S: "s", N: 5, B: true, Pipe: value(num(1))}
	for _, o := range operands() {
		x := odd
		x.Kind = o.Kind
		switch o.Kind {
		case api.OPath:
			x.Var, x.Path = o.Var, o.Path
		case api.OText, api.OCall:
			x.S = o.S
		case api.OInt:
			x.N = o.N
		case api.OBool:
			x.B = o.B
		case api.OPipe:
			x.Pipe = o.Pipe
		}
		if !SamePipe(value(o), value(x)) || !SamePipe(value(x), value(o)) {
			t.Errorf("%+v, %+v: not the same", o, x)
		}
	}
	full := func(kind int) api.Node {
		return api.Node{Kind: kind, At: 9, S: "s", Name: "n", Pipe: value(num(7)), Body: []api.Node{{Kind: api.NText, S: "b"}}, Else: []api.Node{{Kind: api.NText, S: "e"}}, HasElse: true, Cases: []api.Case{{Tag: "t"}}}
	}
	for _, n := range nodes() {
		x := full(n.Kind)
		switch n.Kind {
		case api.NText:
			x.S = n.S
		case api.NVar, api.NSet, api.NCall:
			x.Name, x.Pipe = n.Name, n.Pipe
		case api.NPrint:
			x.Pipe = n.Pipe
		case api.NMatch:
			x.Pipe, x.Cases, x.Else, x.HasElse = n.Pipe, n.Cases, n.Else, n.HasElse
		default:
			x.Pipe, x.Body, x.Else, x.HasElse = n.Pipe, n.Body, n.Else, n.HasElse
		}
		if !Same(wholeOf(n), wholeOf(x)) || !Same(wholeOf(x), wholeOf(n)) {
			t.Errorf("%+v, %+v: not the same", n, x)
		}
	}
}

func wholeOf(l ...api.Node) []api.Template { return []api.Template{{Body: l}} }

// nodes are different ones.
func nodes() []api.Node {
	x, y := []api.Node{{Kind: api.NText, S: "x"}}, []api.Node{{Kind: api.NText, S: "y"}}
	p, q := value(dot("")), value(dot("a"))
	l := []api.Node{{Kind: api.NText, S: "a"}, {Kind: api.NText, S: "b"}, {Kind: api.NPrint, Pipe: p}, {Kind: api.NPrint, Pipe: q}, {Kind: api.NCall, Name: "a"}, {Kind: api.NCall, Name: "b"}}
	for _, kind := range []int{api.NVar, api.NSet, api.NCall} {
		l = append(l, api.Node{Kind: kind, Name: "a", Pipe: p}, api.Node{Kind: kind, Name: "b", Pipe: p}, api.Node{Kind: kind, Name: "a", Pipe: q})
	}
	for _, kind := range []int{api.NIf, api.NWith, api.NRange} {
		for _, body := range [][]api.Node{nil, x, y} {
			l = append(l, api.Node{Kind: kind, Pipe: p, Body: body}, api.Node{Kind: kind, Pipe: q, Body: body}, api.Node{Kind: kind, Pipe: p, Body: body, HasElse: true}, api.Node{Kind: kind, Pipe: p, Body: body, HasElse: true, Else: x}, api.Node{Kind: kind, Pipe: p, Body: body, HasElse: true, Else: y})
		}
	}
	for _, cases := range [][]api.Case{nil, {{Tag: "a"}}, {{Tag: "b"}}, {{Tag: "a", Body: x}}, {{Tag: "a", Body: y}}, {{Tag: "a"}, {Tag: "b"}}, {{Tag: "b"}, {Tag: "a"}}} {
		l = append(l, api.Node{Kind: api.NMatch, Pipe: p, Cases: cases}, api.Node{Kind: api.NMatch, Pipe: q, Cases: cases}, api.Node{Kind: api.NMatch, Pipe: p, Cases: cases, HasElse: true}, api.Node{Kind: api.NMatch, Pipe: p, Cases: cases, HasElse: true, Else: x})
	}
	return l
}

// P701: nodes are the same just if their kinds, and what these name, are; where they stand is not asked.
func TestP701Same(t *testing.T) {
	all := [][]api.Template{nil, {{}}, {{}, {Name: "a"}}, {{}, {Name: "b"}}, {{}, {Name: "a"}, {Name: "b"}}, {{}, {Name: "b"}, {Name: "a"}}, {{Name: "a"}}}
	for _, n := range nodes() {
		outer := api.Node{Kind: api.NIf, Pipe: value(dot("z")), Body: []api.Node{n}}
		all = append(all, wholeOf(n), wholeOf(n, n), wholeOf(outer), []api.Template{{}, {Name: "a", Body: []api.Node{n}}})
	}
	for i, a := range all {
		for k, b := range all {
			if Same(a, b) != (i == k) {
				t.Errorf("%+v, %+v", a, b)
			}
		}
		if !Same(a, moved(a)) || len(a) > 0 && len(a[0].Body) > 0 && alike(a, moved(a)) {
			t.Errorf("%+v: places are asked", a)
		}
	}
}

// moved is templates whose nodes stand elsewhere.
func moved(l []api.Template) []api.Template {
	var out []api.Template
	for _, t := range l {
		out = append(out, api.Template{Name: t.Name, Body: movedNodes(t.Body)})
	}
	return out
}

func movedNodes(l []api.Node) []api.Node {
	var out []api.Node
	for _, n := range l {
		n.At += 5
		n.Body, n.Else = movedNodes(n.Body), movedNodes(n.Else)
		cases := n.Cases
		n.Cases = nil
		for _, c := range cases {
			n.Cases = append(n.Cases, api.Case{Tag: c.Tag, Body: movedNodes(c.Body)})
		}
		out = append(out, n)
	}
	return out
}

// P702: a node of each kind, each of its fields, and where it stands.
func TestP702Nodes(t *testing.T) {
	p := value(dot(""))
	text := func(at int, s string) []api.Node { return []api.Node{{Kind: api.NText, At: at, S: s}} }
	wantNodes(t, "")
	wantNodes(t, "a", text(0, "a")...)
	wantNodes(t, " \n", text(0, " \n")...)
	wantNodes(t, "a } {b\xff\x00", text(0, "a } {b\xff\x00")...)
	wantNodes(t, "ab{{.}}c", api.Node{Kind: api.NText, S: "ab"}, api.Node{Kind: api.NPrint, At: 2, Pipe: p}, api.Node{Kind: api.NText, At: 7, S: "c"})
	wantNodes(t, "{{ f .a 1 | g }}", api.Node{Kind: api.NPrint, Pipe: pipe(cmd(fn("f"), dot("a"), num(1)), cmd(fn("g")))})
	wantNodes(t, `{{"}}"}}`, api.Node{Kind: api.NPrint, Pipe: value(txt("}}"))})
	for _, w := range strings.Fields("if with range match else end case template define $ . true") {
		wantNodes(t, `{{"`+w+`"}}{{f "`+w+`"}}`, api.Node{Kind: api.NPrint, Pipe: value(txt(w))}, api.Node{Kind: api.NPrint, At: len(w) + 6, Pipe: pipe(cmd(fn("f"), txt(w)))})
	}
	for _, s := range []string{"{{$x := .}}", "{{ $ x:=. }}"} {
		wantNodes(t, s, api.Node{Kind: api.NVar, Name: "x", Pipe: p})
	}
	wantNodes(t, "{{$if := 1}}{{$if=-1}}{{$if}}{{$if.a}}", api.Node{Kind: api.NVar, Name: "if", Pipe: value(num(1))}, api.Node{Kind: api.NSet, At: 12, Name: "if", Pipe: value(num(-1))}, api.Node{Kind: api.NPrint, At: 22, Pipe: value(of("if", ""))}, api.Node{Kind: api.NPrint, At: 29, Pipe: value(of("if", "a"))})
	wantNodes(t, "{{$x := $x.a | f}}", api.Node{Kind: api.NVar, Name: "x", Pipe: pipe(cmd(of("x", "a")), cmd(fn("f")))})
	for word, kind := range map[string]int{"if": api.NIf, "with": api.NWith, "range": api.NRange} {
		n := len(word)
		wantNodes(t, "a{{"+word+" .}}{{end}}", api.Node{Kind: api.NText, S: "a"}, api.Node{Kind: kind, At: 1, Pipe: p})
		wantNodes(t, "{{"+word+".}}a{{end}}b", api.Node{Kind: kind, Pipe: p, Body: text(n+5, "a")}, api.Node{Kind: api.NText, At: n + 13, S: "b"})
		wantNodes(t, "{{"+word+" .}}{{else}}{{end}}", api.Node{Kind: kind, Pipe: p, HasElse: true})
		wantNodes(t, "{{"+word+" .}}a{{ else }}b{{ end }}", api.Node{Kind: kind, Pipe: p, Body: text(n+6, "a"), HasElse: true, Else: text(n+17, "b")})
		wantNodes(t, "{{"+word+" f 1 | g}}{{else}} {{end}}", api.Node{Kind: kind, Pipe: pipe(cmd(fn("f"), num(1)), cmd(fn("g"))), HasElse: true, Else: text(n+20, " ")})
		wantNodes(t, "{{"+word+"x .}}", api.Node{Kind: api.NPrint, Pipe: pipe(cmd(fn(word+"x"), dot("")))})
		wantNodes(t, "{{."+word+"}}{{$"+word+"}}", api.Node{Kind: api.NPrint, Pipe: value(dot(word))}, api.Node{Kind: api.NPrint, At: n + 5, Pipe: value(of(word, ""))})
	}
	wantNodes(t, `{{template "t"}}{{ template"if" .a|f }}`, api.Node{Kind: api.NCall, Name: "t"}, api.Node{Kind: api.NCall, At: 16, Name: "if", Pipe: pipe(cmd(dot("a")), cmd(fn("f")))})
	wantNodes(t, `{{template "t" "s"}}`, api.Node{Kind: api.NCall, Name: "t", Pipe: value(txt("s"))})
}

// P702: nodes of a match: its cases, and what stands ahead of them.
func TestP702Matches(t *testing.T) {
	match := func(n api.Node) api.Node {
		n.Kind, n.Pipe = api.NMatch, value(dot(""))
		return n
	}
	text := func(at int, s string) []api.Node { return []api.Node{{Kind: api.NText, At: at, S: s}} }
	wantNodes(t, "{{match .}}{{end}}", match(api.Node{}))
	wantNodes(t, "{{match .}} \t\n\r{{end}} ", match(api.Node{}), api.Node{Kind: api.NText, At: 22, S: " "})
	wantNodes(t, "{{match .}}{{else}}{{end}}", match(api.Node{HasElse: true}))
	wantNodes(t, "{{match .}} {{else}} {{end}}", match(api.Node{HasElse: true, Else: text(20, " ")}))
	wantNodes(t, "{{match .}}{{case a}}{{end}}", match(api.Node{Cases: []api.Case{{Tag: "a"}}}))
	wantNodes(t, "{{match .}}\n{{case a}}\n{{case b}}x{{case a}}{{else}}y{{end}}", match(api.Node{Cases: []api.Case{{Tag: "a", Body: text(22, "\n")}, {Tag: "b", Body: text(33, "x")}, {Tag: "a"}}, HasElse: true, Else: text(52, "y")}))
	wantNodes(t, "{{match .}}{{case if}}{{case true}}{{case\ncase}}{{end}}", match(api.Node{Cases: []api.Case{{Tag: "if"}, {Tag: "true"}, {Tag: "case"}}}))
	inner := match(api.Node{At: 21, Cases: []api.Case{{Tag: "b", Body: text(42, "x")}}, HasElse: true})
	wantNodes(t, "{{match .}}{{case a}}{{match .}}{{case b}}x{{else}}{{end}}{{end}}", match(api.Node{Cases: []api.Case{{Tag: "a", Body: []api.Node{inner}}}}))
	for _, s := range []string{"x", " x ", "\v", "\x00", "\u00a0", "{{.}}", "{{f}}", "{{$x := 1}}", "{{$x = 1}}", "{{if .}}{{end}}", "{{match .}}{{end}}", "{{template \"t\"}}", "{{template \"5\"}}", "{{define \"d\"}}", "{{define \"5\"}}", "x{{@}}"} {
		wantFault(t, "{{match .}}"+s+"{{case a}}{{end}}", 11, api.ErrForm)
		if s[0] == '{' {
			wantFault(t, "{{match .}}\n"+s+"{{end}}", 12, api.ErrForm)
		}
	}
	wantFault(t, "{{match .}}{{f 1 2 3 4 5}}{{end}}", 11, api.ErrArgs)
	wantFault(t, "{{match .}}{{@}}{{end}}", 11, api.ErrToken)
}

// P702: which actions belong to which block, and which to none.
func TestP702Blocks(t *testing.T) {
	blocks := map[string]string{"{{if .}}": "end else .", "{{with .}}": "end else .", "{{range .}}": "end else .", "{{match .}}": "end else case", "{{match .}}{{case a}}": "end else case .", "{{define \"d\"}}": "end .", "{{if .}}{{else}}": "end .", "{{with .}}{{else}}": "end .", "{{range .}}{{else}}": "end .", "{{match .}}{{else}}": "end .", "{{match .}}{{case a}}{{else}}": "end ."}
	actions := map[string]string{"end": "", "else": "{{else}}", "case": "{{case b}}", "define": "{{define \"e\"}}{{end}}", ".": "{{.}}{{if .}}{{end}}"}
	for open, may := range blocks {
		for word, action := range actions {
			if strings.Contains(" "+may+" ", " "+word+" ") {
				wantFault(t, open+action+"{{end}}", 0, api.OK)
				continue
			}
			wantFault(t, open+action+"{{end}}", len(open), api.ErrForm)
			if !strings.HasPrefix(open, "{{define") { // nor where something that is open stands around it
				wantFault(t, "{{if .}}{{else}}"+open+action+"{{end}}{{end}}", 16+len(open), api.ErrForm)
			}
		}
		wantFault(t, open, len(open), api.ErrForm)
		wantFault(t, open+" ", len(open)+1, api.ErrForm)
	}
	for _, word := range []string{"{{end}}", "{{else}}", "{{case b}}"} {
		wantFault(t, word, 0, api.ErrForm)
		wantFault(t, "a{{define \"e\"}}{{end}}"+word, 22, api.ErrForm)
		wantFault(t, "{{if .}}{{end}}"+word, 15, api.ErrForm)
	}
	wantFault(t, "{{match .}}{{case a}}{{if .}}{{case b}}{{end}}{{end}}", 29, api.ErrForm)
	wantFault(t, "{{match .}}{{case a}}{{if .}}{{else}}{{end}}{{else}}{{if .}}{{else}}{{end}}{{end}}", 0, api.OK)
	wantFault(t, "{{if .}}{{if .}}{{else}}{{end}}{{else}}{{end}}", 0, api.OK)
}

// P702: what stands in an action that is no rule's.
func TestP702ActionForms(t *testing.T) {
	for _, s := range strings.Split("|  |else .|else if .|end .|end end|case|case a b|case 5|case \"a\"|case .a|case $a|if|with|range|match|if |if if|if ) |range $x := .|template|template t|template .|template \"t\" if|template \"t\" . .|template \"t\" \"s\" 1|define|define t|define \"t\" .|define \"t\" \"s\"|$x :=|$x =|$x := |$x = := 1|$x : = 1|$x \":=\" 1|\"$\" x := 1|$ \"x\" := 1|\"if\" .|\"else\" .|case \"case\"|$x == 1|$x.a := 1|$x.a = 1|$x y := 1|.x := 1|x := 1|$x := $y := 1|$5 := 1|$ := 1|$x := if .|:= 1|1 2|f g|true 1|(f", "|") {
		wantFault(t, "ab{{"+s+"}}{{end}}", 2, api.ErrForm)
		wantFault(t, "{{if .}}{{"+s+"}}{{end}}", 8, api.ErrForm)
		wantFault(t, "{{match .}}{{case a}}{{"+s+"}}{{end}}", 21, api.ErrForm)
	}
	deep := strings.Repeat("(", 13)
	for _, lead := range []string{"", "if ", "with ", "range ", "match ", "$x := ", "$x = ", "template \"t\" ", "template \"5\" "} {
		wantFault(t, "a{{"+lead+deep+"}}", 1, api.ErrDeep)
		wantFault(t, "a{{"+lead+"f 1 2 3 4 5}}", 1, api.ErrArgs)
		wantFault(t, "a{{"+lead+deep+"@}}", 1, api.ErrToken)
		wantFault(t, "a{{"+lead+"f abcdefghijklmnopq @}}", 1, api.ErrLong)
		wantFault(t, "a{{"+lead+strings.Repeat("f|", 220)+"f}}", 1, api.ErrMany)
	}
	wantFault(t, "a{{else "+deep+"}}", 1, api.ErrForm)
	wantFault(t, "a{{define \"5\" f 1 2 3 4 5}}", 1, api.ErrForm)
}

// P702: definitions stand behind the whole, in their order, and not in it.
func TestP702Definitions(t *testing.T) {
	text := func(at int, s string) api.Node { return api.Node{Kind: api.NText, At: at, S: s} }
	wantTemplates(t, `{{define "b"}}{{end}}`, api.Template{}, api.Template{Name: "b"})
	wantTemplates(t, `x{{define "b"}}y{{end}}z{{define "a"}}{{if .}}v{{end}}w{{end}}`, api.Template{Body: []api.Node{text(0, "x"), text(23, "z")}}, api.Template{Name: "b", Body: []api.Node{text(15, "y")}},
		api.Template{Name: "a", Body: []api.Node{{Kind: api.NIf, At: 38, Pipe: value(dot("")), Body: []api.Node{text(46, "v")}}, text(54, "w")}})
	wantTemplates(t, `{{define "abcdefghijklmnop"}}{{end}}{{ define"end" }}{{end}}`, api.Template{}, api.Template{Name: "abcdefghijklmnop"}, api.Template{Name: "end"})
	wantFault(t, `{{template "a"}}{{define "b"}}{{template "c"}}{{end}}`, 0, api.OK)
	for _, name := range []string{"", "5", "5a", "a b", " a", "a.b", "a-b", "é", `\n`, "abcdefghijklmnopq", strings.Repeat("a", 200)} {
		wantFault(t, `ab{{define "`+name+`"}}{{end}}`, 2, api.ErrName)
		wantFault(t, `ab{{template "`+name+`"}}`, 2, api.ErrName)
		wantFault(t, `ab{{template "`+name+`" .}}`, 2, api.ErrName)
		wantFault(t, `{{if .}}{{template "`+name+`" .}}`, 8, api.ErrName)
	}
	wantFault(t, `{{template "`+strings.Repeat("a", 201)+`"}}`, 0, api.ErrLong)
	wantFault(t, `{{define "a"}}{{end}}{{define "b"}}{{end}}{{define "a"}}`, 42, api.ErrIs)
	wantFault(t, `{{define "a"}}{{template "5"}}{{end}}{{define "a"}}`, 14, api.ErrName)
}

// P702: as many definitions as may be, and one more; what comes ahead of that.
func TestP702ManyDefinitions(t *testing.T) {
	s := ""
	for i := range 12 {
		s += "{{define \"t" + strconv.Itoa(i) + "\"}}{{end}}"
	}
	wantFault(t, s, 0, api.OK)
	wantFault(t, s+"x{{.}}{{template \"t3\"}}", 0, api.OK)
	wantFault(t, s+"{{define \"x\"}}{{end}}", len(s), api.ErrMany)
	wantFault(t, s+"x{{define \"x\"}}", len(s)+1, api.ErrMany)
	wantFault(t, s+"{{define \"t11\"}}", len(s), api.ErrIs)
	wantFault(t, s+"{{define \"\"}}", len(s), api.ErrName)
	wantFault(t, s+"{{if .}}{{define \"x\"}}", len(s)+8, api.ErrForm)
	l, _, _ := Parse(s)
	for i, x := range l {
		if i == 0 && x.Name != "" || i > 0 && x.Name != "t"+strconv.Itoa(i-1) {
			t.Errorf("%d: %s", i, x.Name)
		}
	}
}

// P702: as many open blocks as may be, and one more, of each kind.
func TestP702Deep(t *testing.T) {
	for _, open := range []string{"{{if .}}", "{{with .}}", "{{range .}}", "{{if .}}{{else}}", "{{match .}}{{case a}}", "{{match .}}{{else}}"} {
		in, out := strings.Repeat(open, 12), strings.Repeat("{{end}}", 12)
		wantFault(t, in+"x{{.}}{{template \"t\"}}{{$x := 1}}"+out, 0, api.OK)
		wantFault(t, strings.Repeat(open+"{{end}}", 13), 0, api.OK)
		wantFault(t, in+"{{end}}"+open+"{{end}}"+out, len(in)+7+len(open)+7+77, api.ErrForm)
		for _, more := range []string{"{{if .}}", "{{with .}}", "{{range .}}", "{{match .}}"} {
			wantFault(t, in+more, len(in), api.ErrDeep)
			wantFault(t, in+"x"+more+"{{end}}"+out, len(in)+1, api.ErrDeep)
		}
		wantFault(t, in+"{{if}}", len(in), api.ErrForm)
		wantFault(t, in+"{{define \"5\"}}", len(in), api.ErrForm)
		wantFault(t, in+"{{template \"5\"}}", len(in), api.ErrName)
		defined := "{{define \"a\"}}" + strings.Repeat(open, 11)
		wantFault(t, defined+strings.Repeat("{{end}}", 12), 0, api.OK)
		wantFault(t, defined+open, len(defined), api.ErrDeep)
	}
	full := strings.Repeat("{{if .}}", 11) + "{{match .}}"
	wantFault(t, full+"{{if .}}", len(full), api.ErrForm)
}

// P702: the parts' errors stand ahead of all others; of these the first part's is told; what is open, last.
func TestP702Order(t *testing.T) {
	wantFault(t, strings.Repeat("x", 1500), 0, api.OK)
	wantFault(t, strings.Repeat("x", 1501), 0, api.ErrLong)
	for _, s := range []string{"", "ab", "ab{{end}}", "{{@}}", "{{if .}}", "{{define \"5\"}}"} {
		wantFault(t, s+"{{", 0, api.ErrToken)
		wantFault(t, s+strings.Repeat("{{.}}", 200)+"{{.}}", 0, api.ErrMany)
		wantFault(t, s+strings.Repeat("x", 1501), 0, api.ErrLong)
	}
	wantFault(t, strings.Repeat("{{.}}", 200), 0, api.OK)
	wantFault(t, "ab{{end}}{{@}}", 2, api.ErrForm)
	wantFault(t, "ab{{@}}{{end}}", 2, api.ErrToken)
	wantFault(t, "{{if .}}ab{{f 1 2 3 4 5}}", 10, api.ErrArgs)
	wantFault(t, "{{if .}}ab", 10, api.ErrForm)
	wantFault(t, "{{if .}}{{if .}}{{end}}", 23, api.ErrForm)
	wantFault(t, "{{define \"a\"}}", 14, api.ErrForm)
}
