// Package term is terms: rows of cells in preorder. See ../../shared/doc/01-term.md.
package term

import (
	"iter"
	"slices"

	"purlin/api"
	"purlin/letters"
	"purlin/order"
)

// OfInt is a number as a term.
func OfInt(n int) api.Term { return single(api.Cell{Kind: api.Int, N: n}) }

// OfAtom is a name as a term.
func OfAtom(s string) api.Term { return single(api.Cell{Kind: api.Atom, Text: s}) }

// OfVar is a variable as a term.
func OfVar(v api.Name) api.Term { return single(api.Cell{Kind: api.Var, Var: v}) }

func single(c api.Cell) api.Term {
	t := api.Term{c}
	if !Right(t) {
		return nil
	}
	return t
}

// Make is a structure.
func Make(text string, args ...api.Term) (api.Term, api.Errno) {
	own := api.Cell{Kind: api.Struct, Text: text, N: len(args)}
	if !allRight(args) || !rightCells(own) {
		return nil, api.ErrForm
	}
	t := slices.Concat(append([]api.Term{{own}}, args...)...)
	if len(t) > api.MaxCells {
		return nil, api.ErrLong
	}
	return t, api.OK
}

func allRight(l []api.Term) bool {
	for _, t := range l {
		if !Right(t) {
			return false
		}
	}
	return true
}

// Right tells whether a term is one.
func Right(t api.Term) bool {
	return len(t) >= 1 && len(t) <= api.MaxCells && rightCells(t...) && End(t, 0) == len(t)
}

// End is the place behind the term that begins at a place; 0: there is none.
func End(t api.Term, at int) int {
	if at < 0 || at >= len(t) {
		return 0
	}
	open := 1
	for i := at; i < len(t); i++ {
		args := argumentsOf(t[i])
		// More terms than t has cells cannot all end in it: given up here, so that the sum never goes round.
		if args > len(t)-open {
			return 0
		}
		open += args - 1
		if open == 0 {
			return i + 1
		}
	}
	return 0
}

func argumentsOf(c api.Cell) int {
	if c.Kind != api.Struct {
		return 0
	}
	return max(c.N, 0)
}

// Args are the arguments of a structure.
func Args(t api.Term) []api.Term {
	if !Right(t) || t[0].Kind != api.Struct {
		return nil
	}
	l := make([]api.Term, 0, t[0].N)
	for at := 1; at < len(t); {
		end := End(t, at)
		l = append(l, slices.Clone(t[at:end]))
		at = end
	}
	return l
}

// Is tells whether a term is a structure, or an atom (of no arguments), with a name and so many arguments.
func Is(t api.Term, text string, arity int) bool {
	if len(t) == 0 || t[0].Text != text {
		return false
	}
	if t[0].Kind == api.Atom {
		return arity == 0
	}
	return t[0].Kind == api.Struct && t[0].N == arity
}

// Equal tells whether two are the same.
func Equal(a, b api.Term) bool { return slices.Equal(a, b) }

// Vars are the variables of terms, each once, as they come.
func Vars(l ...api.Term) []api.Name {
	var names []api.Name
	met := map[api.Name]struct{}{}
	for v := range variables(l...) {
		if _, again := met[v]; !again {
			met[v] = struct{}{}
			names = append(names, v)
		}
	}
	return names
}

// variables yields the names of all Var cells, as they come, as often as they come.
func variables(l ...api.Term) iter.Seq[api.Name] {
	return func(yield func(v api.Name) bool) {
		for _, t := range l {
			for _, c := range t {
				if c.Kind == api.Var && !yield(c.Var) {
					return
				}
			}
		}
	}
}

// Put is a term with terms in the places of a clause's variables.
func Put(t api.Term, locals []api.Term) (api.Term, api.Errno) {
	if !Right(t) || !rightLocals(locals) {
		return nil, api.ErrForm
	}
	if lacks(t, locals) {
		return nil, api.ErrNone
	}
	var p api.Term
	for _, c := range t {
		if c.Kind == api.Var && isLocal(c.Var) {
			p = append(p, locals[c.Var.Number]...)
		} else {
			p = append(p, c)
		}
	}
	if len(p) > api.MaxCells {
		return nil, api.ErrLong
	}
	return p, api.OK
}

func rightLocals(locals []api.Term) bool {
	for _, t := range locals {
		if len(t) > 0 && !Right(t) {
			return false
		}
	}
	return true
}

// lacks tells whether a right term has a clause's variable for which there is no term.
func lacks(t api.Term, locals []api.Term) bool {
	for v := range variables(t) {
		if isLocal(v) && (v.Number >= len(locals) || len(locals[v.Number]) == 0) {
			return true
		}
	}
	return false
}

func isLocal(v api.Name) bool { return v.Node == -1 }

// Global tells whether a term has no clause's variables.
func Global(t api.Term) bool {
	for v := range variables(t) {
		if isLocal(v) {
			return false
		}
	}
	return Right(t)
}

// IsName tells whether a text is a name of atoms and structures.
func IsName(s string) bool {
	return s != "" && len(s) <= api.MaxName && letters.Small(s[0]) && letters.Run(s, letters.Inner) == len(s)
}

// Less tells which of two variables comes first.
func Less(a, b api.Name) bool { return order.Names(a, b) < 0 }
