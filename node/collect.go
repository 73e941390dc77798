package node

import (
	"slices"

	"purlin/api"
	"purlin/order"
	"purlin/reach"
	"purlin/term"
)

// collect lets go what is not needed. It has no error, so that nothing waits.
func (v *event) collect() {
	needed := v.needed()
	isNeeded := func(x api.Name) bool {
		_, is := slices.BinarySearchFunc(needed, x, order.Names)
		return is
	}
	for _, c := range v.Imports() {
		if !isNeeded(c.Var) {
			v.send(c.Var.Node, api.Message{Tag: api.Release, Var: c.Var, Count: v.counts().Free(c.Var)})
		}
	}
	v.Drop(reach.Garbage(v.Heap, needed...)...)
	v.askings.Got(slices.DeleteFunc(v.Wanted(), isNeeded)...)
}

// needed are the variables to which goals, roots and what others hold lead, rising.
func (v *event) needed() []api.Name {
	roots := slices.Clone(v.roots)
	for _, c := range v.Exports() {
		roots = append(roots, c.Var)
	}
	for _, g := range slices.Concat(v.Ready(), v.Waiting()) {
		roots = append(roots, term.Vars(g.Term)...)
	}
	return reach.Needed(v.Heap, roots...)
}
