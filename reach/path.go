package reach

import (
	"iter"
	"slices"

	"purlin/api"
	"purlin/heap"
	"purlin/term"
)

// path is a variable behind the path to the one in whose value it was met; nothing is ahead of a root. Paths share what is ahead, so that as many as there are variables take no more room than these.
type path struct {
	end   api.Name
	ahead *path
}

// names are its variables from the root on.
func (p *path) names() []api.Name {
	var l []api.Name
	for ; p != nil; p = p.ahead {
		l = append(l, p.end)
	}
	slices.Reverse(l)
	return l
}

// paths yields one path to each variable that is reached from roots, level by level. In a level they come in the order of those ahead, then of values: so the first to a variable is a shortest one, and of these the one that comes first in values.
func paths(h *heap.Heap, roots ...api.Name) iter.Seq[*path] {
	return func(yield func(p *path) bool) {
		met := meeting{}
		for level := met.first(nil, roots); len(level) > 0; level = met.next(h, level) {
			for _, p := range level {
				if !yield(p) {
					return
				}
			}
		}
	}
}

// meeting is which variables were met.
type meeting map[api.Name]struct{}

// first are the paths to those of some variables that are met for the first time, behind one path.
func (m meeting) first(ahead *path, l []api.Name) []*path {
	var fresh []*path
	for _, v := range l {
		if _, again := m[v]; !again {
			m[v] = struct{}{}
			fresh = append(fresh, &path{v, ahead})
		}
	}
	return fresh
}

// next is the level behind one.
func (m meeting) next(h *heap.Heap, level []*path) []*path {
	var l []*path
	for _, p := range level {
		l = append(l, m.first(p, leads(h, p.end))...)
	}
	return l
}

// leads are the variables of a variable's value, as they come.
func leads(h *heap.Heap, v api.Name) []api.Name {
	value, _ := h.Value(v)
	return term.Vars(value)
}
