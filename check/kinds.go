package check

import (
	"slices"

	"purlin/api"
	"purlin/term"
)

// IsSum tells whether a term is a sum.
func IsSum(t api.Term) bool { return term.Right(t) && sumCells(t) }

// IsGuard tells whether a term is a guard.
func IsGuard(t api.Term) bool {
	if !term.Right(t) {
		return false
	}
	switch c := t[0]; c.Text {
	case "<", "=<", ">", ">=", "=:=", "=\\=":
		return sumCells(t[1:])
	case "integer", "atom", "compound", "known":
		return c.N == 1 && isFlat(t)
	case "equal", "unlike":
		return c.N == 2 && isFlat(t)
	}
	return isTrue(t)
}

// IsGoal tells whether a term is a goal of a body.
func IsGoal(t api.Term) bool {
	if !term.Right(t) {
		return false
	}
	if t[0].Text == "@" {
		goal, place := sides(t)
		return goal[0].Text != "@" && isBare(goal) && isPlace(place)
	}
	return isBare(t)
}

// isBare tells whether a right term is a goal of a body that is none with @.
func isBare(t api.Term) bool {
	switch t[0].Text {
	case "=":
		return true
	case ":=":
		_, e := sides(t)
		return sumCells(e)
	}
	return hasName(t)
}

// isPlace tells whether a right term can say to which node a goal goes.
func isPlace(t api.Term) bool {
	c := t[0]
	return c.Kind == api.Var || c.Kind == api.Int && 0 <= c.N && c.N < api.MaxNodes
}

// sides are both parts of a right structure of a sign; they lie in it, and are not told to anybody.
func sides(t api.Term) (left, right api.Term) {
	middle := term.End(t, 1)
	return t[1:middle], t[middle:]
}

// sumCells tells whether right terms, one behind the other, are sums: they are if each cell may stand in one, as a sum's arguments are sums.
func sumCells(cells []api.Cell) bool {
	return !slices.ContainsFunc(cells, func(c api.Cell) bool { return !mayStandInSum(c) })
}

func mayStandInSum(c api.Cell) bool {
	switch c.Text {
	case "+", "-", "*":
		return true
	case "div", "mod", "min", "max":
		return c.N == 2
	case "abs":
		return c.N == 1
	}
	return c.Kind == api.Int || c.Kind == api.Var
}

// isFlat tells whether the arguments of a right structure are of one cell each.
func isFlat(t api.Term) bool { return len(t) == 1+t[0].N }

// hasName tells whether a term is an atom or a structure of a name, by its first cell, as term.Is does. The term need not be right, so that an atom's text is asked, too: a predicate is a name with an arity.
func hasName(t api.Term) bool {
	if len(t) == 0 {
		return false
	}
	return (t[0].Kind == api.Atom || t[0].Kind == api.Struct) && term.IsName(t[0].Text)
}

func isTrue(t api.Term) bool { return term.Is(t, "true", 0) }
