package sch

import (
	"slices"
	"strings"

	"sprue/api"
	"sprue/scan"
)

// reader reads a source's words from the left.
type reader struct {
	words []scan.Token // those that are not read yet
	err   api.Errno    // the first one but ErrIs
	twice bool         // two have one name: told only if there is no other error
}

// whole reads a source that is one such thing and nothing else.
func whole[T any](s string, read func(*reader) T) (T, api.Errno) {
	var none T
	words, e := scan.Tokens(s)
	if e != api.OK {
		return none, e
	}
	r := reader{words: words}
	x := read(&r)
	if e := r.end(); e != api.OK {
		return none, e
	}
	return x, api.OK
}

// end tells the error of all that was read, and of words that are left.
func (r *reader) end() api.Errno {
	if len(r.words) > 0 {
		r.fail(api.ErrForm)
	}
	if r.err == api.OK && r.twice {
		return api.ErrIs
	}
	return r.err
}

// fail drops the words that are left: whoever goes on reading meets the end, and comes back soon.
func (r *reader) fail(e api.Errno) {
	if r.err == api.OK {
		r.err = e
	}
	r.words = nil
}

// schema reads a schema.
func (r *reader) schema() api.Schema {
	var s api.Schema
	r.need(scan.Name, "data")
	s.Main = r.outerType()
	r.need(scan.Sign, ";")
	for len(r.words) > 0 {
		if r.take(scan.Name, "type") {
			s.Types = append(s.Types, r.named())
		} else {
			s.Sigs = append(s.Sigs, r.function())
		}
		r.need(scan.Sign, ";")
	}
	sortNames(r, s.Types, func(n api.Named) string { return n.Name })
	sortNames(r, s.Sigs, func(g api.Sig) string { return g.Name })
	return s
}

// named reads a named type behind its first word.
func (r *reader) named() api.Named {
	var n api.Named
	n.Name = r.name()
	r.need(scan.Sign, "=")
	n.T = r.outerType()
	return n
}

func (r *reader) function() api.Sig {
	var g api.Sig
	r.need(scan.Name, "fn")
	g.Name = r.name()
	g.Params = list(r, "(", ")", r.outerType)
	r.need(scan.Sign, "->")
	g.Result = r.outerType()
	return g
}

// outerType reads a type that stands by itself.
func (r *reader) outerType() api.Type {
	return r.oneType(1)
}

// oneType reads a type, so many deep.
func (r *reader) oneType(depth int) api.Type {
	bare := r.at(scan.Sign, "{")
	if !bare && !r.atName() {
		r.fail(api.ErrForm)
		return api.Type{}
	}
	if depth > api.MaxNest {
		r.fail(api.ErrDeep)
		return api.Type{}
	}
	t := api.Type{Kind: api.TRec}
	if !bare {
		t = wordType(r.name())
	}
	switch lookOf(t.Kind).form {
	case holder:
		r.need(scan.Sign, "<")
		t.Kids = []api.Type{r.oneType(depth + 1)}
		r.need(scan.Sign, ">")
	case record, tagged:
		t.Names, t.Kids = r.record(depth + 1)
	}
	return t
}

// wordType is the type that a word begins, as far as the word says it.
func wordType(word string) api.Type {
	kind := kindOf(word)
	if kind == api.TName {
		return api.Type{Kind: kind, Name: word}
	}
	return api.Type{Kind: kind}
}

// record reads names and types in braces, the types so many deep, and sorts them.
func (r *reader) record(depth int) (names []string, kids []api.Type) {
	fields := list(r, "{", "}", func() api.Named {
		name := r.name()
		r.need(scan.Sign, ":")
		return api.Named{Name: name, T: r.oneType(depth)}
	})
	sortNames(r, fields, func(n api.Named) string { return n.Name })
	for _, f := range fields {
		names = append(names, f.Name)
		kids = append(kids, f.T)
	}
	return names, kids
}

// list reads any number of things with commas between, and the signs around them.
func list[T any](r *reader, opening, closing string, read func() T) []T {
	var l []T
	r.need(scan.Sign, opening)
	for more := !r.at(scan.Sign, closing); more; more = r.take(scan.Sign, ",") {
		l = append(l, read())
	}
	r.need(scan.Sign, closing)
	return l
}

// sortNames sorts by names, and takes note where two are one.
func sortNames[T any](r *reader, l []T, name func(T) string) {
	slices.SortFunc(l, func(a, b T) int { return strings.Compare(name(a), name(b)) })
	for i := 1; i < len(l); i++ {
		if name(l[i-1]) == name(l[i]) {
			r.twice = true
		}
	}
}

// at tells whether that word is the next one.
func (r *reader) at(kind int, text string) bool {
	return len(r.words) > 0 && r.words[0].Kind == kind && r.words[0].Text == text
}

func (r *reader) atName() bool {
	return len(r.words) > 0 && r.words[0].Kind == scan.Name
}

// take reads that word, if it is the next one.
func (r *reader) take(kind int, text string) bool {
	if !r.at(kind, text) {
		return false
	}
	r.words = r.words[1:]
	return true
}

// need reads that word; it is an error if it is not the next one.
func (r *reader) need(kind int, text string) {
	if !r.take(kind, text) {
		r.fail(api.ErrForm)
	}
}

// name reads any name; it is an error if none is next.
func (r *reader) name() string {
	if !r.atName() {
		r.fail(api.ErrForm)
		return ""
	}
	name := r.words[0].Text
	r.words = r.words[1:]
	return name
}
