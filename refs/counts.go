package refs

import (
	"cmp"
	"slices"

	"purlin/api"
	"purlin/order"
)

// counts are how often nodes hold variables. None is 0: what stands here, counts.
type counts map[holding]int

// holding is that a node holds a variable.
type holding struct {
	variable api.Name
	node     int
}

func (c counts) add(h holding, times int) {
	c[h] += times
	if c[h] == 0 {
		delete(c, h)
	}
}

// variables is how many have a count.
func (c counts) variables() int {
	met := map[api.Name]struct{}{}
	for h := range c {
		met[h.variable] = struct{}{}
	}
	return len(met)
}

// rising are all counts, by variables, then by nodes.
func (c counts) rising() []Count {
	var l []Count
	for h, times := range c {
		l = append(l, Count{Var: h.variable, Node: h.node, Times: times})
	}
	slices.SortFunc(l, func(a, b Count) int {
		return cmp.Or(order.Names(a.Var, b.Var), cmp.Compare(a.Node, b.Node))
	})
	return l
}
