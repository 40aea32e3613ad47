package tree

import (
	"slices"

	"sprue/api"
)

// comparer goes through two trees side by side, while left lasts.
type comparer struct {
	left int
}

// each tells whether two lists are the same, one by one.
func each[T any](c *comparer, a, b []T, same func(T, T) bool) bool {
	return slices.EqualFunc(a, b, func(x, y T) bool {
		c.left--
		return c.left >= 0 && same(x, y)
	})
}

func (c *comparer) template(a, b api.Template) bool {
	return a.Name == b.Name && c.nodes(a.Body, b.Body)
}

func (c *comparer) nodes(a, b []api.Node) bool {
	return each(c, a, b, c.node)
}

// node asks what its kind names, and no more.
func (c *comparer) node(a, b api.Node) bool {
	if a.Kind != b.Kind {
		return false
	}
	switch a.Kind {
	case api.NText:
		return a.S == b.S
	case api.NVar, api.NSet, api.NCall:
		if a.Name != b.Name {
			return false
		}
		fallthrough
	case api.NPrint:
		return c.pipe(a.Pipe, b.Pipe)
	case api.NIf, api.NWith, api.NRange:
		return c.pipe(a.Pipe, b.Pipe) && c.nodes(a.Body, b.Body) && c.other(a, b)
	case api.NMatch:
		return c.pipe(a.Pipe, b.Pipe) && each(c, a.Cases, b.Cases, c.oneCase) && c.other(a, b)
	}
	return true
}

// other asks for what stands behind an else.
func (c *comparer) other(a, b api.Node) bool {
	return a.HasElse == b.HasElse && c.nodes(a.Else, b.Else)
}

func (c *comparer) oneCase(a, b api.Case) bool {
	return a.Tag == b.Tag && c.nodes(a.Body, b.Body)
}

func (c *comparer) pipe(a, b []api.Command) bool {
	return each(c, a, b, c.command)
}

func (c *comparer) command(a, b api.Command) bool {
	return each(c, a.Ops, b.Ops, c.operand)
}

// operand asks what its kind names, and no more.
func (c *comparer) operand(a, b api.Operand) bool {
	if a.Kind != b.Kind {
		return false
	}
	switch a.Kind {
	case api.OPath:
		return a.Var == b.Var && each(c, a.Path, b.Path, func(x, y string) bool { return x == y })
	case api.OText, api.OCall:
		return a.S == b.S
	case api.OInt:
		return a.N == b.N
	case api.OBool:
		return a.B == b.B
	case api.OPipe:
		return c.pipe(a.Pipe, b.Pipe)
	}
	return true
}
