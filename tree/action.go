package tree

import (
	"sprue/api"
	"sprue/scan"
)

// Kinds of what is no node, beside those of nodes.
const (
	whole = -iota // what stands in no action
	elseMark
	endMark
	caseMark
	define
)

// verb is a word that actions begin with, and their kind.
type verb struct {
	word string
	kind int
}

var verbs = [...]verb{
	{"if", api.NIf},
	{"with", api.NWith},
	{"range", api.NRange},
	{"match", api.NMatch},
	{"else", elseMark},
	{"end", endMark},
	{"case", caseMark},
	{"template", api.NCall},
	{"define", define},
}

func verbOf(word string) (kind int, ok bool) {
	for _, v := range verbs {
		if v.word == word {
			return v.kind, true
		}
	}
	return 0, false
}

// actionOf takes what stands in an action to a node without what stands behind it; one of the kinds above has its Name.
func actionOf(s string) (api.Node, api.Errno) {
	return all(s, (*reader).action)
}

func (r *reader) action() api.Node {
	n := api.Node{Kind: r.kind()}
	switch n.Kind {
	case elseMark, endMark:
	case caseMark:
		n.Name = r.need(scan.Name)
	case define:
		n.Name = r.need(scan.Str)
	case api.NCall:
		n.Name = r.need(scan.Str)
		if r.ended() {
			break
		}
		fallthrough
	case api.NPrint, api.NIf, api.NWith, api.NRange, api.NMatch:
		n.Pipe = r.pipe()
	case api.NVar, api.NSet:
		n.Name = r.assigned()
		n.Pipe = r.pipe()
	}
	return n
}

// kind tells an action's, and reads its verb, if it begins with one.
func (r *reader) kind() int {
	first := r.at(0)
	if kind, ok := verbOf(first.Text); ok && first.Kind == scan.Name {
		r.step()
		return kind
	}
	// What begins with a variable is told by the word behind it.
	if !isSign(first, "$") || r.at(1).Kind != scan.Name {
		return api.NPrint
	}
	switch sign := r.at(2); {
	case isSign(sign, ":="):
		return api.NVar
	case isSign(sign, "="):
		return api.NSet
	}
	return api.NPrint
}

// assigned reads a variable and the sign behind it.
func (r *reader) assigned() string {
	r.step()
	name := r.step().Text
	r.step()
	return name
}
