package cons

import (
	"strings"

	"sprue/api"
)

// sig is a function: the numbers of what it takes and answers.
type sig struct {
	params []int
	result int
}

// schema adds all types of a schema, in order.
func (t *Table) schema(s api.Schema) api.Errno {
	if e := t.namedTypes(s.Types); e != api.OK {
		return e
	}
	id, e := t.Add(s.Main)
	if e != api.OK {
		return e
	}
	t.main = id
	for _, g := range s.Sigs {
		if e := t.function(g); e != api.OK {
			return e
		}
	}
	return api.OK
}

func (t *Table) namedTypes(l []api.Named) api.Errno {
	// All names first: what one stands for may have any of them within it.
	for _, n := range l {
		t.stand(n.Name, 0)
	}
	for _, n := range l {
		id, e := t.Add(n.T)
		if e != api.OK {
			return e
		}
		t.stand(n.Name, id)
	}
	return api.OK
}

// stand takes note of what a name stands for. (A map takes a key anew also where it has an equal one: each time a clone.)
func (t *Table) stand(name string, id int) {
	t.named[strings.Clone(name)] = id
}

func (t *Table) function(g api.Sig) api.Errno {
	var f sig
	for _, p := range g.Params {
		id, e := t.Add(p)
		if e != api.OK {
			return e
		}
		f.params = append(f.params, id)
	}
	id, e := t.Add(g.Result)
	if e != api.OK {
		return e
	}
	f.result = id
	t.sigs[strings.Clone(g.Name)] = f
	return api.OK
}
