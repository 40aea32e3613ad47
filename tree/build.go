package tree

import (
	"slices"
	"strings"

	"sprue/api"
	"sprue/scan"
	"sprue/text"
)

const blanks = " \t\n\r"

// block is what nodes stand in, as far as it was read: the whole, a definition, or a node.
type block struct {
	api.Node
}

// branches tells whether an else may belong to it.
func (b *block) branches() bool {
	switch b.Kind {
	case api.NIf, api.NWith, api.NRange, api.NMatch:
		return true
	}
	return false
}

// waits tells whether it is a match whose nodes have nowhere to stand yet.
func (b *block) waits() bool {
	return b.Kind == api.NMatch && len(b.Cases) == 0 && !b.HasElse
}

// allows tells whether an action of that kind may stand in it.
func (b *block) allows(kind int) bool {
	switch kind {
	case endMark:
		return b.Kind != whole
	case elseMark:
		return b.branches() && !b.HasElse
	case caseMark:
		return b.Kind == api.NMatch && !b.HasElse
	case define:
		return b.Kind == whole
	}
	return !b.waits()
}

// put lays a node behind those that stand there.
func (b *block) put(n api.Node) {
	row := &b.Body
	switch {
	case b.HasElse:
		row = &b.Else
	case len(b.Cases) > 0:
		row = &b.Cases[len(b.Cases)-1].Body
	}
	*row = append(*row, n)
}

// builder puts the parts of a template together.
type builder struct {
	open    []block // the whole, and what is open in it, the innermost last
	defined []api.Template
}

func (b *builder) enter(n api.Node) {
	b.open = append(b.open, block{n})
}

// depth counts what is open.
func (b *builder) depth() int {
	return len(b.open) - 1
}

func (b *builder) inner() *block {
	return &b.open[len(b.open)-1]
}

// part takes the next part.
func (b *builder) part(p text.Part) api.Errno {
	if !p.Action {
		return b.text(p)
	}
	n, e := actionOf(p.S)
	if e != api.OK {
		return e
	}
	if !b.inner().allows(n.Kind) {
		return api.ErrForm
	}
	n.At = p.At
	return b.action(n)
}

func (b *builder) text(p text.Part) api.Errno {
	switch {
	case !b.inner().waits():
		b.inner().put(api.Node{Kind: api.NText, At: p.At, S: p.S})
	case strings.Trim(p.S, blanks) != "":
		return api.ErrForm
	}
	return api.OK
}

// action takes an action that may stand there.
func (b *builder) action(n api.Node) api.Errno {
	switch n.Kind {
	case endMark:
		b.end()
	case elseMark:
		b.inner().HasElse = true
	case caseMark:
		b.inner().Cases = append(b.inner().Cases, api.Case{Tag: n.Name})
	case define:
		return b.define(n)
	case api.NIf, api.NWith, api.NRange, api.NMatch:
		if b.depth() == api.MaxNest {
			return api.ErrDeep
		}
		b.enter(n)
	case api.NCall:
		if !scan.Ident(n.Name) {
			return api.ErrName
		}
		fallthrough
	default:
		b.inner().put(n)
	}
	return api.OK
}

func (b *builder) define(n api.Node) api.Errno {
	is := func(t api.Template) bool { return t.Name == n.Name }
	switch {
	case !scan.Ident(n.Name):
		return api.ErrName
	case slices.ContainsFunc(b.defined, is):
		return api.ErrIs
	case len(b.defined) == api.MaxNames:
		return api.ErrMany
	}
	b.enter(n)
	return api.OK
}

// end shuts the innermost block.
func (b *builder) end() {
	done := b.inner().Node
	b.open = b.open[:b.depth()]
	if done.Kind == define {
		b.defined = append(b.defined, api.Template{Name: done.Name, Body: done.Body})
		return
	}
	b.inner().put(done)
}

// templates are the whole and the defined ones.
func (b *builder) templates() []api.Template {
	return append([]api.Template{{Body: b.inner().Body}}, b.defined...)
}
