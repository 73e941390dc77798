package arith

import (
	"purlin/api"
	"purlin/heap"
	"purlin/term"
)

// look holds sums and guards against one map, and gathers what they wait for, each variable once, as they come.
type look struct {
	h     *heap.Heap
	ops   []operator
	names []api.Name
	met   map[api.Name]struct{}
}

func lookBy(h *heap.Heap) *look {
	return &look{h: h, ops: operators(), met: map[api.Name]struct{}{}}
}

// wait notes a variable for which something waits.
func (l *look) wait(v api.Name) api.Outcome {
	if _, again := l.met[v]; !again {
		l.met[v] = struct{}{}
		l.names = append(l.names, v)
	}
	return api.Suspends
}

// sum reckons the sum with which cells begin; behind are the cells behind it. A part that fails makes all fail in which it stands, so that nobody asks what is behind it.
func (l *look) sum(cells api.Term) (n int, o api.Outcome, behind api.Term) {
	if cells[0].Kind != api.Struct {
		n, o = l.number(cells[:1])
		return n, o, cells[1:]
	}
	for _, op := range l.ops {
		if term.Is(cells, op.text, op.arity) {
			return l.operation(op, cells[1:])
		}
	}
	return 0, api.Fails, nil
}

// number is that of a term, followed.
func (l *look) number(t api.Term) (int, api.Outcome) {
	switch c := l.h.Deref(t)[0]; c.Kind {
	case api.Int:
		return c.N, api.Commits
	case api.Var:
		return 0, l.wait(c.Var)
	}
	return 0, api.Fails
}

// operation reckons what an operator makes of the sums with which cells begin.
func (l *look) operation(op operator, cells api.Term) (n int, o api.Outcome, behind api.Term) {
	numbers, o, behind := l.sums(cells, op.arity)
	if o != api.Commits {
		return 0, o, behind
	}
	n, ok := op.result(numbers...)
	if !ok {
		return 0, api.Fails, nil
	}
	return n, api.Commits, behind
}

// sums reckons so many, one behind the other. All are looked at though one waits: another one may fail, or wait too.
func (l *look) sums(cells api.Term, count int) (numbers []int, o api.Outcome, behind api.Term) {
	o, behind = api.Commits, cells
	for range count {
		n, each, rest := l.sum(behind)
		switch each {
		case api.Fails:
			return nil, api.Fails, nil
		case api.Suspends:
			o = api.Suspends
		}
		numbers, behind = append(numbers, n), rest
	}
	return numbers, o, behind
}
