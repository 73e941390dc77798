package model

import (
	"slices"

	"purlin/api"
	"purlin/term"
)

// equation tells it of A = B. A machine that knows less than this one may have seen any part of the chains: so a commit may speak of what is not the last of them.
func (m *Model) equation(t api.Term, c api.Commit) bool {
	sides := term.Args(t)
	a, b := m.values.Chain(sides[0]), m.values.Chain(sides[1])
	switch {
	case tellsNothing(c):
		return meet(a, b)
	case tellsBound(c):
		return binds(a, b, c.Bound[0]) || binds(b, a, c.Bound[0])
	}
	return ends(last(a), last(b), c)
}

func last(chain []api.Term) api.Term { return chain[len(chain)-1] }

// meet tells whether a variable, a number or an atom stands in both chains: those are the terms of one cell.
func meet(a, b []api.Term) bool {
	return slices.ContainsFunc(a, func(x api.Term) bool { return len(x) == 1 && stands(x, b) })
}

func stands(t api.Term, chain []api.Term) bool {
	return slices.ContainsFunc(chain, func(x api.Term) bool { return term.Equal(x, t) })
}

// binds tells whether a binding gives the last of a chain a term of another one, and descends. The last of a chain has no value, if it is a variable.
func binds(chain, other []api.Term, b api.Binding) bool {
	return term.Equal(last(chain), term.OfVar(b.Var)) && stands(b.Term, other) &&
		(!isVariable(b.Term) || term.Less(b.Term[0].Var, b.Var))
}

// ends tells it of what stands last in both chains: by first cells as wholes, as they are right.
func ends(a, b api.Term, c api.Commit) bool {
	switch {
	case isVariable(a) || isVariable(b):
		return false
	case a[0] != b[0]:
		return tellsFails(c)
	case a[0].Kind != api.Struct:
		return false
	}
	parts, e := equations(term.Args(a), term.Args(b))
	if e != api.OK {
		return tellsFails(c)
	}
	return tellsGoals(c, parts...)
}

// equations are those of two rows of arguments, place by place.
func equations(left, right []api.Term) ([]api.Term, api.Errno) {
	var parts []api.Term
	for i := range left {
		part, e := term.Make("=", left[i], right[i])
		if e != api.OK {
			return nil, e
		}
		parts = append(parts, part)
	}
	return parts, api.OK
}
