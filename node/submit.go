package node

import (
	"purlin/api"
	"purlin/credit"
	"purlin/term"
)

// mostUnits is how many may be given out.
const mostUnits = 1<<31 - 1

// submit begins with a goal.
func (v *event) submit(t api.Term) api.Errno {
	switch {
	case v.own != first:
		return api.ErrRange
	case !mayBegin(t):
		return api.ErrForm
	case v.units == mostUnits:
		return api.ErrFull
	}
	if e := v.gain(credit.Units(1)); e != api.OK {
		return e
	}
	v.units++
	fresh := v.fresh(len(term.Vars(t)))
	v.nextVar += len(fresh)
	v.roots = append(v.roots, fresh...)
	// Each variable is a term of one cell, as what it stands for: so Put has no error.
	t, _ = term.Put(t, asTerms(fresh...))
	v.put(v.named(t)...)
	return api.OK
}

// mayBegin tells whether a term is an atom or a structure whose variables are its own, numbered as they first come.
func mayBegin(t api.Term) bool {
	if !term.Right(t) || isVariable(t) || isNumber(t) {
		return false
	}
	for i, x := range term.Vars(t) {
		if x != (api.Name{Node: -1, Number: i}) {
			return false
		}
	}
	return true
}

func asTerms(l ...api.Name) []api.Term {
	var terms []api.Term
	for _, x := range l {
		terms = append(terms, term.OfVar(x))
	}
	return terms
}
