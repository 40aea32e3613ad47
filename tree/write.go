package tree

import (
	"strconv"
	"strings"

	"sprue/api"
)

// writer writes while left lasts.
type writer struct {
	b    strings.Builder
	left int
}

func (w *writer) put(s string) {
	w.b.WriteString(s)
}

// parted writes what is in a list, with a sign between.
func parted[T any](w *writer, l []T, sign string, write func(T)) {
	for i := 0; i < len(l) && w.left > 0; i++ {
		w.left--
		if i > 0 {
			w.put(sign)
		}
		write(l[i])
	}
}

func (w *writer) pipe(p []api.Command) {
	parted(w, p, " | ", w.command)
}

func (w *writer) command(c api.Command) {
	parted(w, c.Ops, " ", w.operand)
}

func (w *writer) operand(o api.Operand) {
	switch o.Kind {
	case api.OPath:
		w.path(o)
	case api.OText:
		w.put(quoted(o.S))
	case api.OInt:
		w.put(strconv.FormatInt(o.N, 10))
	case api.OBool:
		w.put(strconv.FormatBool(o.B))
	case api.OPipe:
		w.put("(")
		w.pipe(o.Pipe)
		w.put(")")
	case api.OCall:
		w.put(o.S)
	}
}

func (w *writer) path(o api.Operand) {
	switch {
	case o.Var != "":
		w.put("$" + o.Var)
	case len(o.Path) == 0:
		w.put(".")
	}
	parted(w, o.Path, "", func(name string) { w.put("." + name) })
}

// quoted is a text as scan reads it back.
func quoted(s string) string {
	return `"` + strings.NewReplacer(`\`, `\\`, `"`, `\"`, "\n", `\n`, "\t", `\t`).Replace(s) + `"`
}
