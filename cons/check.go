package cons

import (
	"sprue/api"
)

// maxTree bounds the types of one that is added, those within it among them.
const maxTree = 400

// checker goes through a type ahead of its being added, so that one which may not be, perhaps without an end, leaves nothing in the table.
type checker struct {
	named map[string]int
	gone  int // types gone through
}

func (c *checker) oneType(x api.Type) api.Errno {
	c.gone++
	switch {
	case c.gone > maxTree || len(x.Kids) > api.MaxFields:
		return api.ErrMany
	case x.Kind < api.TBool || x.Kind > api.TName:
		return api.ErrArg
	case !formed(x):
		return api.ErrForm
	case x.Kind == api.TName && !c.has(x.Name):
		return api.ErrName
	}
	for _, kid := range x.Kids {
		if e := c.oneType(kid); e != api.OK {
			return e
		}
	}
	return api.OK
}

func (c *checker) has(name string) bool {
	_, ok := c.named[name]
	return ok
}

// parts are how long a type's name is, how many names it has, and how many kids.
type parts [3]int

// formed tells whether a type has just the parts that its kind asks.
func formed(x api.Type) bool {
	got := parts{len(x.Name), len(x.Names), len(x.Kids)}
	switch x.Kind {
	case api.TList, api.TMap, api.TOpt:
		return got == parts{0, 0, 1}
	case api.TRec, api.TUnion:
		return got == parts{0, len(x.Names), len(x.Names)}
	case api.TName:
		return got == parts{len(x.Name), 0, 0}
	}
	return got == parts{}
}
