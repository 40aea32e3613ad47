package kinds

import (
	"sprue/api"
	"sprue/cons"
)

// given is what a builtin function is given.
type given struct {
	t    *cons.Table
	args []int
	a, b cons.Node // the first and the second argument, opened; of no kind, if there is none
}

func builtin(t *cons.Table, name string, args []int) (int, api.Errno) {
	if len(args) != takes(name) {
		return 0, api.ErrArgs
	}
	g := given{t: t, args: args, a: opened(t, args[0])}
	if len(args) > 1 {
		g.b = opened(t, args[1])
	}
	if !g.fits(name) {
		return 0, api.ErrType
	}
	return g.answer(name)
}

// takes tells how many arguments a builtin function takes.
func takes(name string) int {
	switch name {
	case "len", "not", "text", "has", "i8", "i16", "i32", "u8", "u16", "u32":
		return 1
	}
	return 2
}

// opened is what a number is, names gone through; of no kind, if it is no type's.
func opened(t *cons.Table, id int) cons.Node {
	id, ok := t.Open(id)
	if !ok {
		return cons.Node{}
	}
	n, _ := t.Node(id)
	return n
}

// fits tells whether a builtin function takes what it is given. Nothing is made here: a type that does not fit leaves the table as it is.
func (g *given) fits(name string) bool {
	a, b := g.a.Kind, g.b.Kind
	switch name {
	case "and", "or":
		if b != api.TBool {
			return false
		}
		fallthrough
	case "not":
		return a == api.TBool
	case "lt", "add", "sub", "mul", "shl", "shr":
		if b != api.TInt {
			return false
		}
		fallthrough
	case "i8", "i16", "i32", "u8", "u16", "u32":
		return a == api.TInt
	case "eq":
		if a != b {
			return false
		}
		return a == api.TBool || a == api.TInt || a == api.TText
	case "cat":
		return a == api.TText && b == api.TText
	case "text":
		return a == api.TInt || a == api.TBool
	case "len":
		return a == api.TText || a == api.TList || a == api.TMap
	case "at":
		return a == api.TList && b == api.TInt
	case "get":
		// An Opt of an Opt could not tell a key that there is none of from a value that there is none of.
		return a == api.TMap && b == api.TText && opened(g.t, g.a.Kids[0]).Kind != api.TOpt
	case "has":
		return a == api.TOpt
	case "orelse":
		return a == api.TOpt && g.args[1] == g.a.Kids[0]
	}
	return false
}

// answer tells the number of what a builtin function answers, which takes what it is given.
func (g *given) answer(name string) (int, api.Errno) {
	switch name {
	case "at", "orelse":
		return g.a.Kids[0], api.OK
	case "get":
		return g.t.Opt(g.a.Kids[0])
	case "not", "and", "or", "eq", "lt", "has":
		return g.t.Base(api.TBool)
	case "cat", "text":
		return g.t.Base(api.TText)
	}
	return g.t.Base(api.TInt)
}
