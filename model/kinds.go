package model

import (
	"slices"

	"purlin/api"
	"purlin/arith"
	"purlin/match"
	"purlin/term"
)

// kind is a kind of goals: which terms, followed, are of it, which commits are reductions of one, and whether none is.
type kind struct {
	is      func(t api.Term) bool
	reduces func(t api.Term, c api.Commit) bool
	waits   func(t api.Term) bool
}

// kinds are in the order in which they are asked: a term that is of none ahead is a call.
func (m *Model) kinds() []kind {
	always := func(api.Term) bool { return true }
	never := func(api.Term) bool { return false }
	of := func(text string, arity int) func(t api.Term) bool {
		return func(t api.Term) bool { return term.Is(t, text, arity) }
	}
	return []kind{
		{isVariable, func(api.Term, api.Commit) bool { return false }, always},
		{isNumber, func(_ api.Term, c api.Commit) bool { return tellsFails(c) }, never},
		{of("true", 0), func(_ api.Term, c api.Commit) bool { return tellsNothing(c) }, never},
		{of("=", 2), m.equation, never},
		{of(":=", 2), m.sum, func(t api.Term) bool {
			_, o, _ := arith.Value(m.values, term.Args(t)[1])
			return o == api.Suspends
		}},
		{of("@", 2), m.place, func(t api.Term) bool { return isVariable(m.values.Deref(term.Args(t)[1])) }},
		{always, m.call, func(t api.Term) bool { return match.Try(m.values, m.program, t).Outcome == api.Suspends }},
	}
}

// kindOf is the first one of which a term is.
func kindOf(t api.Term, kinds []kind) kind {
	return kinds[slices.IndexFunc(kinds, func(k kind) bool { return k.is(t) })]
}

func isVariable(t api.Term) bool { return t[0].Kind == api.Var }

func isNumber(t api.Term) bool { return t[0].Kind == api.Int }

// sum tells it of V := E.
func (m *Model) sum(t api.Term, c api.Commit) bool {
	sides := term.Args(t)
	switch n, o, _ := arith.Value(m.values, sides[1]); o {
	case api.Commits:
		// It has no more cells than t, so that Make has no error.
		equation, _ := term.Make("=", sides[0], term.OfInt(n))
		return tellsGoals(c, equation)
	case api.Fails:
		return tellsFails(c)
	}
	return false
}

// place tells it of G @ P.
func (m *Model) place(t api.Term, c api.Commit) bool {
	sides := term.Args(t)
	p := m.values.Deref(sides[1])
	switch {
	case isVariable(p):
		return false
	case isNumber(p) && m.isNode(p[0].N):
		return tellsGoals(c, sides[0])
	}
	return tellsFails(c)
}

// call tells it of a goal that clauses are for.
func (m *Model) call(t api.Term, c api.Commit) bool {
	if c.Clause == noClause {
		return tellsFails(c) && match.Try(m.values, m.program, t).Outcome == api.Fails
	}
	if c.Clause < 0 || c.Clause >= len(m.program) {
		return false
	}
	clause := m.program[c.Clause]
	tried := match.Clause(m.values, clause, t)
	switch {
	case tried.Outcome != api.Commits:
		return false
	case c.Fails:
		return shapeOf(c) == shape{fails: true, clause: c.Clause} && isTooLong(clause, tried.Locals)
	}
	body, e := match.Body(clause, tried.Locals, c.Fresh...)
	return e == api.OK && len(c.Bound) == 0 && haveTerms(c.Goals, body)
}

// isTooLong tells whether a body's goal has too many cells. Which names its new variables have plays no part in that.
func isTooLong(clause api.Clause, locals []api.Term) bool {
	_, e := match.Body(clause, locals, make([]api.Name, len(match.Free(clause)))...)
	return e == api.ErrLong
}
