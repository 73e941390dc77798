package node

import (
	"slices"

	"purlin/api"
	"purlin/arith"
	"purlin/match"
	"purlin/term"
	"purlin/unify"
)

// noClause stands where a commit needs none.
const noClause = -1

// step does the queue's first goal.
func (v *event) step() api.Errno {
	g, ok := v.Peek()
	switch {
	case !ok:
		return api.ErrIdle
	case v.left == 0:
		return api.ErrFuel
	}
	v.goal = g
	v.later(func() { v.Next() })
	t := v.Deref(g.Term)
	v.kindOf(t).does(t)
	return api.OK
}

// kind is a kind of goals: which terms, followed, are of it, and what a step of one does.
type kind struct {
	is   func(t api.Term) bool
	does func(t api.Term)
}

// kinds are in the order in which they are asked: a term that is of none ahead is a call.
func (v *event) kinds() []kind {
	of := func(text string, arity int) func(t api.Term) bool {
		return func(t api.Term) bool { return term.Is(t, text, arity) }
	}
	return []kind{
		{isVariable, func(t api.Term) { v.wait(t[0].Var) }},
		{isNumber, func(api.Term) { v.fail(noClause) }},
		{of("true", 0), func(api.Term) { v.leave(noClause, nil) }},
		{of("=", 2), v.equation},
		{of(":=", 2), v.sum},
		{of("@", 2), v.away},
		{func(api.Term) bool { return true }, v.call},
	}
}

func (v *event) kindOf(t api.Term) kind {
	l := v.kinds()
	return l[slices.IndexFunc(l, func(k kind) bool { return k.is(t) })]
}

func isVariable(t api.Term) bool { return t[0].Kind == api.Var }

func isNumber(t api.Term) bool { return t[0].Kind == api.Int }

// commit is a reduction of the goal.
func (v *event) commit(c api.Commit) {
	c.Node, c.Goal = v.own, v.goal
	v.commits = append(v.commits, c)
	v.left--
}

func (v *event) fail(clause int) {
	v.failed = true
	v.commit(api.Commit{Fails: true, Clause: clause})
}

// leave is a reduction of which goals are left here.
func (v *event) leave(clause int, fresh []api.Name, l ...api.Term) {
	goals := v.named(l...)
	v.commit(api.Commit{Clause: clause, Fresh: fresh, Goals: goals})
	v.put(goals...)
}

// named are goals with new names.
func (v *event) named(l ...api.Term) []api.Goal {
	var goals []api.Goal
	for _, t := range l {
		goals = append(goals, api.Goal{Name: api.Name{Node: v.own, Number: v.nextGoal}, Term: t})
		v.nextGoal++
	}
	return goals
}

// fresh are the names that the next variables have; none is used by that.
func (v *event) fresh(n int) []api.Name {
	var names []api.Name
	for i := range n {
		names = append(names, api.Name{Node: v.own, Number: v.nextVar + i})
	}
	return names
}

// equation does A = B, or sends it to the owner of the variable that it would bind.
func (v *event) equation(t api.Term) {
	a, b, _ := unify.Equation(t)
	switch r := unify.Step(v.Heap, a, b); {
	case r.Kind == unify.Clash:
		v.fail(noClause)
	case r.Kind != unify.Binds:
		v.leave(noClause, nil, r.Parts...)
	case r.Var.Node != v.own:
		v.ship(r.Var.Node, v.goal)
	default:
		v.commit(api.Commit{Clause: noClause, Bound: []api.Binding{{Var: r.Var, Term: r.Term}}})
		v.bind(r.Var, r.Term)
	}
}

// sum does V := E.
func (v *event) sum(t api.Term) {
	sides := term.Args(t)
	switch n, o, waits := arith.Value(v.Heap, sides[1]); o {
	case api.Suspends:
		v.wait(waits...)
	case api.Fails:
		v.fail(noClause)
	default:
		// It has no more cells than t, so that Make has no error.
		equation, _ := term.Make("=", sides[0], term.OfInt(n))
		v.leave(noClause, nil, equation)
	}
}

// away does G @ P.
func (v *event) away(t api.Term) {
	sides := term.Args(t)
	p := v.Deref(sides[1])
	switch {
	case isVariable(p):
		v.wait(p[0].Var)
	case !isNumber(p) || !v.isNode(p[0].N):
		v.fail(noClause)
	case p[0].N == v.own:
		v.leave(noClause, nil, sides[0])
	default:
		goals := v.named(sides[0])
		v.commit(api.Commit{Clause: noClause, Goals: goals})
		v.ship(p[0].N, goals[0])
	}
}

// call does a goal that clauses are for.
func (v *event) call(t api.Term) {
	tried := match.Try(v.Heap, v.program, t)
	switch tried.Outcome {
	case api.Suspends:
		v.wait(tried.Waits...)
		return
	case api.Fails:
		v.fail(noClause)
		return
	}
	c := v.program[tried.Clause]
	fresh := v.fresh(len(match.Free(c)))
	body, e := match.Body(c, tried.Locals, fresh...)
	if e != api.OK {
		v.fail(tried.Clause)
		return
	}
	v.nextVar += len(fresh)
	v.leave(tried.Clause, fresh, body...)
}
