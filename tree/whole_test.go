package tree

import (
	"strings"
	"testing"
	"unsafe"

	"sprue/api"
)

// P1, P3, P4: bytes of any kind; every call ends, answers alike, and nothing beside an error.
func TestP1AnyBytes(t *testing.T) {
	r := row(8)
	pieces := []string{"{{", "}}", "if .", "end", "else", "case a", "match .", "define \"a\"", "template \"a\"", "(", ")", "|", ".", ".a", "$", "x", ":=", "=", "\"", "\\", " ", "1", "f"}
	for i := range 30000 {
		s := ""
		for range r.below(1 + i%60) {
			if r.below(8) == 0 {
				s += string([]byte{byte(r.below(256))})
			} else {
				s += r.one(pieces)
			}
		}
		p, e := Pipe(s)
		q, f := Pipe(s)
		if e != f || !alike(p, q) || e != api.OK && len(p) > 0 || e == api.OK && len(p) == 0 {
			t.Fatalf("%q: %+v, %v; then %+v, %v", s, p, e, q, f)
		}
		l, at, e := Parse(s)
		k, place, f := Parse(s)
		if e != f || at != place || !alike(l, k) || e != api.OK && len(l) > 0 || e == api.OK && (at != 0 || len(l) == 0) || at < 0 || at > len(s) {
			t.Fatalf("%q: %+v, %d, %v; then %+v, %d, %v", s, l, at, e, k, place, f)
		}
	}
	for _, s := range []string{strings.Repeat("(", 1500), strings.Repeat("{", 1500), strings.Repeat("{{if(", 300), strings.Repeat("x", 1<<20), strings.Repeat("{{", 1<<19)} {
		Pipe(s)
		Parse(s)
	}
}

// oddPipe makes pipelines that Pipe does not make.
func oddPipe(r *row, deep int) []api.Command {
	var p []api.Command
	for range r.below(3) {
		var c api.Command
		for range r.below(4) {
			o := api.Operand{Kind: []int{0, 1, 2, 3, 4, 5, 6, 7, -1, 1 << 40, -1 << 63}[r.below(11)], Var: r.one([]string{"", "a", "$", "\n"}), S: r.one([]string{"", "\x00\"", "f g", "\xff"}), N: int64(r.below(5)), B: r.below(2) == 0}
			for range r.below(3) {
				o.Path = append(o.Path, r.one([]string{"", ".", "a", " "}))
			}
			if deep > 0 {
				o.Pipe = oddPipe(r, deep-1)
			}
			c.Ops = append(c.Ops, o)
		}
		p = append(p, c)
	}
	return p
}

func oddNodes(r *row, deep int) []api.Node {
	var l []api.Node
	for range r.below(4) {
		n := api.Node{Kind: []int{0, 1, 2, 3, 4, 5, 6, 7, 8, 9, 10, -1, -2, -3, -4, 1 << 40, -1 << 63}[r.below(17)], At: r.below(9) - 4, S: r.one([]string{"", "{{"}), Name: r.one([]string{"", "a", "5"}), Pipe: oddPipe(r, 1), HasElse: r.below(2) == 0}
		if deep > 0 {
			n.Body, n.Else = oddNodes(r, deep-1), oddNodes(r, deep-1)
			for range r.below(3) {
				n.Cases = append(n.Cases, api.Case{Tag: r.one([]string{"", "a"}), Body: oddNodes(r, deep-1)})
			}
		}
		l = append(l, n)
	}
	return l
}

func clonedPipe(p []api.Command) []api.Command {
	var l []api.Command
	for _, c := range p {
		ops := append([]api.Operand(nil), c.Ops...)
		for i, o := range ops {
			ops[i].Path, ops[i].Pipe = append([]string(nil), o.Path...), clonedPipe(o.Pipe)
		}
		l = append(l, api.Command{Ops: ops})
	}
	return l
}

// P1, P2, P8: trees that Parse does not make: every call ends, and changes nothing.
func TestP8OddTrees(t *testing.T) {
	r := row(9)
	for range 1500 {
		p, q := oddPipe(&r, 3), oddPipe(&r, 3)
		before := clonedPipe(p)
		if PipeText(p) != PipeText(p) || SamePipe(p, q) != SamePipe(q, p) || !SamePipe(p, before) {
			t.Fatalf("%+v: not alike", p)
		}
		a := []api.Template{{Name: "a", Body: oddNodes(&r, 3)}, {Body: oddNodes(&r, 2)}}
		b := []api.Template{{Name: "a", Body: oddNodes(&r, 3)}}
		if Same(a, b) != Same(b, a) || !Same(a, a) || !Same(a, moved(a)) {
			t.Fatalf("%+v: not alike", a)
		}
		if !alike(p, before) {
			t.Fatalf("%+v: was %+v", p, before)
		}
	}
}

// P1: trees far deeper than any that is read, and trees that hold themselves.
func TestP1EndlessTrees(t *testing.T) {
	deep, far := value(num(1)), []api.Node{{Kind: api.NText}}
	for i := range 1 << 20 {
		deep = value(in(deep...))
		far = []api.Node{{Kind: []int{api.NIf, api.NMatch, api.NWith}[i%3], Body: far, Else: far, Cases: []api.Case{{Body: far}}}}
	}
	pipes, rows := [][]api.Command{deep}, [][]api.Node{far}
	for _, n := range []int{1, 2, 3000} {
		ops, commands, long := make([]api.Operand, n), make([]api.Command, n), make([]string, 1<<16)
		for i := range commands {
			ops[i] = api.Operand{Kind: api.OPipe, Pipe: commands}
			commands[i].Ops = ops
		}
		wide := append([]api.Operand{{Kind: api.OPath, Path: long}}, ops...)
		for i := range commands {
			commands[i].Ops = wide
		}
		pipes = append(pipes, commands)
		nodes := make([]api.Node, n)
		for i := range nodes {
			nodes[i] = api.Node{Kind: []int{api.NIf, api.NMatch, api.NRange}[i%3], Pipe: commands, Body: nodes, Else: nodes, Cases: []api.Case{{Body: nodes}, {Body: nodes}}}
		}
		rows = append(rows, nodes)
	}
	for _, p := range pipes {
		if PipeText(p) != PipeText(p) || SamePipe(p, p) != SamePipe(p, p) {
			t.Error("not alike")
		}
		Same(wholeOf(api.Node{Kind: api.NPrint, Pipe: p}), wholeOf(api.Node{Kind: api.NPrint, Pipe: p}))
	}
	for _, l := range rows {
		Same(wholeOf(l...), wholeOf(l...))
	}
}

// P701: pipelines deeper than a source's are told, too.
func TestP701BelowTheDepthOfSources(t *testing.T) {
	deep, text := value(num(1)), "1"
	for range 600 {
		deep, text = value(in(deep...)), "("+text+")"
	}
	if PipeText(deep) != text || !SamePipe(deep, clonedPipe(deep)) || SamePipe(deep, deep[0].Ops[0].Pipe) {
		t.Error("600 deep: not told")
	}
}

// span is the memory of a list, its spare room too.
type span struct{ from, to uintptr }

func spanOf[T any](l []T) span {
	var x T
	from := uintptr(unsafe.Pointer(unsafe.SliceData(l)))
	return span{from, from + uintptr(cap(l))*unsafe.Sizeof(x)}
}

func pipeSpans(p []api.Command) []span {
	l := []span{spanOf(p)}
	for _, c := range p {
		l = append(l, spanOf(c.Ops))
		for _, o := range c.Ops {
			l = append(l, spanOf(o.Path))
			l = append(l, pipeSpans(o.Pipe)...)
		}
	}
	return l
}

func nodeSpans(nodes []api.Node) []span {
	l := []span{spanOf(nodes)}
	for _, n := range nodes {
		l = append(l, spanOf(n.Cases))
		l = append(l, pipeSpans(n.Pipe)...)
		l = append(l, nodeSpans(n.Body)...)
		l = append(l, nodeSpans(n.Else)...)
		for _, c := range n.Cases {
			l = append(l, nodeSpans(c.Body)...)
		}
	}
	return l
}

func templateSpans(templates []api.Template) []span {
	l := []span{spanOf(templates)}
	for _, t := range templates {
		l = append(l, nodeSpans(t.Body)...)
	}
	return l
}

const everything = `a{{f .a.b (g $x.c | h 1) "s" | i}}{{define "t"}}{{match .}}{{case a}}x{{.}}{{case b}}{{else}}y{{.}}{{end}}{{end}}{{if .}}b{{.}}{{else}}c{{.}}{{end}}{{range .}}{{.}}{{.}}{{with .}}{{.a}}{{end}}{{end}}{{define "u"}}d{{template "t" .a}}{{$x := .a}}{{end}}{{match .}}{{else}}z{{end}}`

// P2: no two lists of answers share memory, of one answer or of two.
func TestP2NoSharedLists(t *testing.T) {
	x, _, _ := Parse(everything)
	y, _, e := Parse(everything)
	p, _ := Pipe("f .a.b (g $x.c | h 1) | i ((j))")
	l := append(append(templateSpans(x), templateSpans(y)...), pipeSpans(p)...)
	if e != api.OK || len(l) < 100 {
		t.Errorf("%v: only %d lists", e, len(l))
	}
	for i, a := range l {
		for _, b := range l[:i] {
			if a.from < a.to && b.from < b.to && a.from < b.to && b.from < a.to {
				t.Errorf("%v, %v: shared", a, b)
			}
		}
	}
}

// P2: an answer that its owner changes changes no later one.
func TestP2NewMemory(t *testing.T) {
	want, _, _ := Parse(everything)
	got, _, _ := Parse(everything)
	for i := range got[:cap(got)] {
		for k := range got[:cap(got)][i].Body {
			got[i].Body[k] = api.Node{Kind: 99}
		}
		got[:cap(got)][i] = api.Template{Name: "changed"}
	}
	wantTemplates(t, everything, want...)
	p, _ := Pipe("f .a")
	p[0].Ops[1].Path[0], p[0].Ops[0] = "changed", num(5)
	wantPipe(t, "f .a", cmd(fn("f"), dot("a")))
}

// P2: what is handed in is not kept: no text of an answer lies in the source, or in a tree.
func TestP2NotKept(t *testing.T) {
	within := func(part, whole string) bool {
		p, w := uintptr(unsafe.Pointer(unsafe.StringData(part))), uintptr(unsafe.Pointer(unsafe.StringData(whole)))
		return part != "" && p >= w && p < w+uintptr(len(whole))
	}
	s := strings.Clone(`abc{{def $ghi.jkl "mno"}}{{$pqr := 1}}{{template "stu"}}{{match .}}{{case vwx}}{{end}}{{define "yza"}}{{end}}`)
	l, _, _ := Parse(s)
	body := l[0].Body
	ops := body[1].Pipe[0].Ops
	texts := []string{body[0].S, ops[0].S, ops[1].Var, ops[1].Path[0], ops[2].S, body[2].Name, body[3].Name, body[4].Cases[0].Tag, l[1].Name}
	for i, x := range texts {
		if within(x, s) || len(x) != 3 {
			t.Errorf("%d: %q lies in the source", i, x)
		}
	}
	if name := strings.Clone("Defghi"); within(PipeText(value(fn(name))), name) {
		t.Error("the text is the name")
	}
}

// P3, P7: what one call was given does not show in another's answer.
func TestP3Alike(t *testing.T) {
	want, _, _ := Parse(everything)
	for _, s := range []string{"{{if .}}", "{{define \"t\"}}{{end}}", "{{((((((((((((1}}", everything, ""} {
		Parse(s)
		Pipe(s)
		wantTemplates(t, everything, want...)
	}
}
