package shape

import (
	"sprue/api"
)

// maxWalk is far more than a schema that may be asks for: types of another making may go down, or round, without end.
const maxWalk = 1 << 16

// ending is those of the named types that are known to have a value that ends.
type ending struct {
	names meaning
	left  int // types that may yet be gone through
}

// namesThatEnd goes round, till a round finds no name more: what is left has no value but endless ones.
func namesThatEnd(l []api.Named) *ending {
	f := &ending{names: meaning{}, left: maxWalk}
	for more := true; more; {
		more = f.round(l)
	}
	return f
}

// round takes in the names that end by those known, and tells whether there were any.
func (f *ending) round(l []api.Named) bool {
	known := len(f.names)
	for _, n := range l {
		if !f.names.has(n.Name) && f.finite(n.T) {
			f.names[n.Name] = n.T
		}
	}
	return len(f.names) > known
}

// finite tells whether a type has a value that ends, by the names known.
func (f *ending) finite(t api.Type) bool {
	if f.left == 0 {
		return false
	}
	f.left--
	switch t.Kind {
	case api.TBool, api.TInt, api.TText, api.TList, api.TMap, api.TOpt:
		return true
	case api.TRec:
		return f.every(t.Kids)
	case api.TUnion:
		return f.some(t.Kids)
	case api.TName:
		return f.names.has(t.Name)
	}
	return false
}

func (f *ending) every(l []api.Type) bool {
	for _, t := range l {
		if !f.finite(t) {
			return false
		}
	}
	return true
}

func (f *ending) some(l []api.Type) bool {
	for _, t := range l {
		if f.finite(t) {
			return true
		}
		// Nothing more is found then: lists that hold themselves would be gone through once for each level.
		if f.left == 0 {
			return false
		}
	}
	return false
}
