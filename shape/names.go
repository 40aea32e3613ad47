package shape

import (
	"slices"

	"sprue/api"
)

// meaning is what named types stand for.
type meaning map[string]api.Type

func meanings(l []api.Named) meaning {
	m := meaning{}
	for _, n := range l {
		m[n.Name] = n.T
	}
	return m
}

func (m meaning) has(name string) bool {
	_, ok := m[name]
	return ok
}

// open goes through names till there is none. It ends just because each name is known to be finite.
func (m meaning) open(t api.Type) api.Type {
	for t.Kind == api.TName {
		t = m[t.Name]
	}
	return t
}

// optOfOpt tells whether an Opt of an Opt stands anywhere in a schema.
func (m meaning) optOfOpt(s api.Schema) bool {
	for _, n := range s.Types {
		if m.nested(n.T) {
			return true
		}
	}
	for _, g := range s.Sigs {
		if m.nested(g.Result) || slices.ContainsFunc(g.Params, m.nested) {
			return true
		}
	}
	return m.nested(s.Main)
}

// nested tells whether a type is, or has within it, an Opt of an Opt.
func (m meaning) nested(t api.Type) bool {
	if t.Kind == api.TOpt && m.open(t.Kids[0]).Kind == api.TOpt {
		return true
	}
	return slices.ContainsFunc(t.Kids, m.nested)
}
