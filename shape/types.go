package shape

import (
	"sprue/api"
)

// maxTypes bounds the types of a schema, those within others among them.
const maxTypes = 400

// checker goes through a schema's types.
type checker struct {
	names meaning
	gone  int // types gone through
}

func (c *checker) schema(s api.Schema) api.Errno {
	for _, n := range s.Types {
		if e := c.oneType(n.T, 1); e != api.OK {
			return e
		}
	}
	if e := c.oneType(s.Main, 1); e != api.OK {
		return e
	}
	ahead := ""
	for _, g := range s.Sigs {
		if e := c.function(ahead, g); e != api.OK {
			return e
		}
		ahead = g.Name
	}
	return api.OK
}

// function checks a function behind the one of the name ahead.
func (c *checker) function(ahead string, g api.Sig) api.Errno {
	if e := nameError(ahead, g.Name, Builtin(g.Name)); e != api.OK {
		return e
	}
	if len(g.Params) > api.MaxArgs {
		return api.ErrArgs
	}
	if e := c.all(g.Params, 1); e != api.OK {
		return e
	}
	return c.oneType(g.Result, 1)
}

// all checks types in order, each so many deep.
func (c *checker) all(l []api.Type, depth int) api.Errno {
	for _, t := range l {
		if e := c.oneType(t, depth); e != api.OK {
			return e
		}
	}
	return api.OK
}

func (c *checker) oneType(t api.Type, depth int) api.Errno {
	c.gone++
	switch {
	case c.gone > maxTypes:
		return api.ErrMany
	case depth > api.MaxNest:
		return api.ErrDeep
	case t.Kind < api.TBool || t.Kind > api.TName:
		return api.ErrArg
	case !formed(t):
		return api.ErrForm
	case t.Kind == api.TName && !c.names.has(t.Name):
		return api.ErrName
	}
	if e := fieldNames(t); e != api.OK {
		return e
	}
	return c.all(t.Kids, depth+1)
}

// formed tells whether a type has just the parts that its kind asks.
func formed(t api.Type) bool {
	kids, named := 0, false
	switch t.Kind {
	case api.TList, api.TMap, api.TOpt:
		kids = 1
	case api.TRec, api.TUnion:
		kids, named = len(t.Names), true
	}
	return len(t.Kids) == kids && (t.Name == "" || t.Kind == api.TName) && (len(t.Names) == 0 || named)
}

// fieldNames checks the names that a type has.
func fieldNames(t api.Type) api.Errno {
	if len(t.Names) > api.MaxFields {
		return api.ErrMany
	}
	ahead := ""
	for _, name := range t.Names {
		if e := nameError(ahead, name, false); e != api.OK {
			return e
		}
		ahead = name
	}
	if t.Kind == api.TUnion && len(t.Names) == 0 {
		return api.ErrForm
	}
	return api.OK
}
