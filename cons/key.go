package cons

import (
	"strings"

	"sprue/api"
)

// key is a type whose kids are numbers: those of types that are written alike are alike.
type key struct {
	kind  int
	name  string
	size  int // how many kids there are
	names [api.MaxFields]string
	kids  [api.MaxFields]int // 0 behind the last one
}

// node is what a key says, as lists of its own.
func (k *key) node() Node {
	n := Node{Kind: k.kind, Name: k.name, Kids: append([]int(nil), k.kids[:k.size]...)}
	if k.kind == api.TRec || k.kind == api.TUnion {
		n.Names = append([]string(nil), k.names[:k.size]...)
	}
	return n
}

// own is a key that keeps nothing of the texts that it was made of.
func (k key) own() key {
	k.name = strings.Clone(k.name)
	for i, name := range k.names {
		k.names[i] = strings.Clone(name)
	}
	return k
}

// tree tells the number of a type, that of each of its kids ahead of its own.
func (t *Table) tree(x api.Type) (int, api.Errno) {
	k := key{kind: x.Kind, name: x.Name, size: len(x.Kids)}
	copy(k.names[:], x.Names)
	for i, kid := range x.Kids {
		id, e := t.tree(kid)
		if e != api.OK {
			return 0, e
		}
		k.kids[i] = id
	}
	return t.number(k)
}

// number tells that of the type that is there, or gives the next one.
func (t *Table) number(k key) (int, api.Errno) {
	if id, ok := t.numbers[k]; ok {
		return id, api.OK
	}
	id := len(t.types)
	if id >= api.MaxTypes {
		return 0, api.ErrBig
	}
	if t.numbers == nil { // there is nothing in the table yet
		t.numbers = map[key]int{}
	}
	k = k.own()
	t.types = append(t.types, k)
	t.numbers[k] = id
	return id, api.OK
}
