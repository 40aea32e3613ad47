package sch

import (
	"strings"

	"sprue/api"
)

// writer writes, each outer type while left lasts.
type writer struct {
	b    strings.Builder
	left int
}

func (w *writer) put(s string) {
	w.b.WriteString(s)
}

func (w *writer) schema(s api.Schema) {
	w.put("data ")
	w.outerType(s.Main)
	w.put(";\n")
	for _, n := range s.Types {
		w.put("type " + n.Name + " = ")
		w.outerType(n.T)
		w.put(";\n")
	}
	for _, g := range s.Sigs {
		w.function(g)
	}
}

func (w *writer) function(g api.Sig) {
	w.put("fn " + g.Name + "(")
	for i, p := range g.Params {
		w.comma(i)
		w.outerType(p)
	}
	w.put(") -> ")
	w.outerType(g.Result)
	w.put(";\n")
}

// outerType writes a type that stands by itself.
func (w *writer) outerType(t api.Type) {
	w.left = maxWalk
	w.oneType(t)
}

func (w *writer) oneType(t api.Type) {
	w.left--
	l := lookOf(t.Kind)
	w.put(l.word)
	switch l.form {
	case alone:
		if t.Kind == api.TName {
			w.put(t.Name)
		}
	case holder:
		w.put("<")
		w.kids(t)
		w.put(">")
	case tagged:
		w.put(" ")
		fallthrough
	case record:
		w.put("{")
		w.kids(t)
		w.put("}")
	}
}

// kids writes a type's kids, each behind its name, if it has one.
func (w *writer) kids(t api.Type) {
	for i := 0; i < len(t.Kids) && w.left > 0; i++ {
		w.comma(i)
		if i < len(t.Names) {
			w.put(t.Names[i] + ": ")
		}
		w.oneType(t.Kids[i])
	}
}

// comma parts the thing at that place from the one ahead of it.
func (w *writer) comma(i int) {
	if i > 0 {
		w.put(", ")
	}
}
