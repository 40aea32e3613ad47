package pipe

import (
	"slices"
	"strings"

	"sprue/api"
	"sprue/cons"
)

// dot is the place that stands for the dot where those of variables stand.
const dot = -1

// place is that of the last variable of a name; the dot's, if there is no name.
func (e Env) place(name string) (int, bool) {
	if name == "" {
		return dot, true
	}
	for i, v := range slices.Backward(e.Vars) {
		if v.Name == name {
			return i, true
		}
	}
	return 0, false
}

// whole is the type of what stands at a place, whatever narrows there are.
func (e Env) whole(place int) int {
	if place == dot {
		return e.Dot
	}
	return e.Vars[place].Type
}

// front tells the type of the longest front of a path that has one without its fields being asked, and the names behind that front.
func (e Env) front(place int, path []string) (id int, behind []string) {
	id, behind = e.whole(place), path
	for _, n := range e.Narrows {
		if n.Var != place || !begins(path, n.Path) {
			continue
		}
		// One as long as the front so far is of the same front: the last one counts.
		if rest := path[len(n.Path):]; len(rest) <= len(behind) {
			id, behind = n.Type, rest
		}
	}
	return id, behind
}

// begins tells whether a path begins with a front.
func begins(path, front []string) bool {
	return len(front) <= len(path) && slices.Equal(path[:len(front)], front)
}

// field is the type of a record's field.
func field(t *cons.Table, id int, name string) (int, bool) {
	id, ok := t.Open(id)
	if !ok {
		return 0, false
	}
	n, _ := t.Node(id)
	i := slices.Index(n.Names, name)
	if n.Kind != api.TRec || i < 0 {
		return 0, false
	}
	return n.Kids[i], true
}

// owned is a path that shares nothing with the one that it is like.
func owned(path []string) []string {
	l := make([]string, len(path))
	for i, name := range path {
		l[i] = strings.Clone(name)
	}
	return l
}
