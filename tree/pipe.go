package tree

import (
	"sprue/api"
	"sprue/scan"
)

// reader reads actions and their pipelines.
type reader struct {
	words
	brackets int // those that are open
}

func (r *reader) pipe() []api.Command {
	p := []api.Command{r.command()}
	for r.take("|") {
		p = append(p, r.command())
	}
	return p
}

func (r *reader) command() api.Command {
	head := begins(r.at(0))
	ops := []api.Operand{r.operand()}
	if head == api.OCall {
		ops = append(ops, r.given()...)
	}
	return api.Command{Ops: ops}
}

// given reads what stands behind a function's name.
func (r *reader) given() []api.Operand {
	var ops []api.Operand
	for kind := begins(r.at(0)); kind != 0 && kind != api.OCall; kind = begins(r.at(0)) {
		// As soon as one begins: whatever is wrong within it stands behind.
		if len(ops) == api.MaxArgs {
			r.fail(api.ErrArgs)
			break
		}
		ops = append(ops, r.operand())
	}
	return ops
}

// begins is the kind of the operand that begins with a word; 0: none does.
func begins(t scan.Token) int {
	switch t.Kind {
	case scan.Str:
		return api.OText
	case scan.Int:
		return api.OInt
	case scan.Name:
		return named(t.Text)
	case scan.Sign:
		return signed(t.Text)
	}
	return 0
}

// named is the kind of the operand that begins with a name.
func named(name string) int {
	if _, verb := verbOf(name); verb {
		return 0
	}
	if name == "true" || name == "false" {
		return api.OBool
	}
	return api.OCall
}

// signed is the kind of the operand that begins with a sign.
func signed(sign string) int {
	switch sign {
	case ".", "$":
		return api.OPath
	case "(":
		return api.OPipe
	}
	return 0
}

// operand reads one, a function's name too.
func (r *reader) operand() api.Operand {
	o := api.Operand{Kind: begins(r.at(0))}
	switch o.Kind {
	case api.OPath:
		o.Var, o.Path = r.path()
	case api.OInt:
		o.N = r.step().N
	case api.OBool:
		o.B = r.step().Text == "true"
	case api.OText, api.OCall:
		o.S = r.step().Text
	case api.OPipe:
		o.Pipe = r.bracketed()
	default:
		r.fail(api.ErrForm)
	}
	return o
}

// path reads a path, at whose first sign it stands.
func (r *reader) path() (variable string, fields []string) {
	switch {
	case r.take("$"):
		variable = r.need(scan.Name)
	case r.atField():
		fields = append(fields, r.field())
	default:
		r.step() // the dot alone: what stands behind it is no part of it
		return "", nil
	}
	for r.at(0).At == r.end && r.atField() {
		fields = append(fields, r.field())
	}
	return variable, fields
}

// atField tells whether a dot is next, and a name right behind it.
func (r *reader) atField() bool {
	dot, name := r.at(0), r.at(1)
	return isSign(dot, ".") && name.Kind == scan.Name && name.At == dot.At+1
}

// field reads a dot and its name.
func (r *reader) field() string {
	r.step()
	return r.step().Text
}

// bracketed reads a pipeline and the brackets around it.
func (r *reader) bracketed() []api.Command {
	if r.brackets == api.MaxNest {
		r.fail(api.ErrDeep)
		return nil
	}
	r.step()
	r.brackets++
	p := r.pipe()
	r.brackets--
	if !r.take(")") {
		r.fail(api.ErrForm)
	}
	return p
}
