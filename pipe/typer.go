package pipe

import (
	"sprue/api"
	"sprue/cons"
	"sprue/kinds"
)

// maxWalk is far more operands than a source makes: pipelines of another making may hold themselves, and have no end.
const maxWalk = 1 << 16

// typer goes through a pipeline, and those within its brackets, while left lasts. What no source is read as is refused with ErrForm.
type typer struct {
	t    *cons.Table
	env  Env
	left int
}

func (y *typer) pipe(p []api.Command) (int, api.Errno) {
	if len(p) == 0 {
		return 0, api.ErrForm
	}
	var ahead []int // the type of the command ahead, if there is one
	for _, c := range p {
		id, e := y.command(c.Ops, ahead)
		if e != api.OK {
			return 0, e
		}
		ahead = []int{id}
	}
	return ahead[0], api.OK
}

func (y *typer) command(ops []api.Operand, ahead []int) (int, api.Errno) {
	y.left -= len(ops)
	switch {
	case len(ops) == 0:
		return 0, api.ErrForm
	case y.left < 0:
		return 0, api.ErrMany
	case ops[0].Kind == api.OCall:
		return y.call(ops[0].S, ops[1:], ahead)
	case len(ops) > 1:
		return 0, api.ErrForm
	}
	id, e := y.operand(ops[0])
	if e == api.OK && len(ahead) > 0 {
		return 0, api.ErrArgs
	}
	return id, e
}

// call tells what a function answers that is given operands and, last, what the command ahead is.
func (y *typer) call(name string, ops []api.Operand, ahead []int) (int, api.Errno) {
	args := make([]int, len(ops)+len(ahead))
	copy(args[len(ops):], ahead)
	for i, o := range ops {
		id, e := y.operand(o)
		if e != api.OK {
			return 0, e
		}
		args[i] = id
	}
	return kinds.Of(y.t, name, args)
}

func (y *typer) operand(o api.Operand) (int, api.Errno) {
	switch o.Kind {
	case api.OPath:
		return y.path(o)
	case api.OText:
		return y.t.Base(api.TText)
	case api.OInt:
		return y.t.Base(api.TInt)
	case api.OBool:
		return y.t.Base(api.TBool)
	case api.OPipe:
		return y.pipe(o.Pipe)
	}
	return 0, api.ErrForm
}

func (y *typer) path(o api.Operand) (int, api.Errno) {
	v, ok := y.env.place(o.Var)
	if !ok {
		return 0, api.ErrName
	}
	id, behind := y.env.front(v, o.Path)
	for _, name := range behind {
		if id, ok = field(y.t, id, name); !ok {
			return 0, api.ErrField
		}
	}
	return id, api.OK
}
