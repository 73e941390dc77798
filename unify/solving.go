package unify

import (
	"slices"

	"purlin/api"
	"purlin/heap"
)

// solving is equations that are being solved, on a map of their own. The row has the first of them at its end, where equations go and parts come.
type solving struct {
	Solved
	h   *heap.Heap
	row []api.Term
}

func solvingBy(h *heap.Heap, l []api.Term) *solving {
	own := h.Fork()
	if own == nil {
		own = heap.New()
	}
	s := &solving{h: own}
	for _, t := range slices.Backward(l) {
		s.row = append(s.row, slices.Clone(t))
	}
	return s
}

// step does that of the first equation; false: it is a clash.
func (s *solving) step() bool {
	last := len(s.row) - 1
	a, b, _ := Equation(s.row[last])
	r := Step(s.h, a, b)
	s.Steps++
	s.row = s.row[:last]
	switch r.Kind {
	case Clash:
		return false
	case Binds:
		s.h.Bind(r.Var, r.Term)
		s.Bound = append(s.Bound, api.Binding{Var: r.Var, Term: r.Term})
	case Parted:
		slices.Reverse(r.Parts)
		s.row = append(s.row, r.Parts...)
	}
	return true
}

// solved is what came of it without a clash.
func (s *solving) solved() Solved {
	s.Outcome = api.Commits
	if len(s.row) > 0 {
		s.Outcome = api.Suspends
		slices.Reverse(s.row)
		s.Left = s.row
	}
	return s.Solved
}
