package arith

import (
	"purlin/api"
	"purlin/term"
)

// test is a kind of guards: holds tells what becomes of a right one.
type test struct {
	text  string
	arity int
	holds func(g api.Term) api.Outcome
}

// tests are all that there are.
func (l *look) tests() []test {
	return []test{
		{"true", 0, func(api.Term) api.Outcome { return api.Commits }},
		{"<", 2, l.compare(func(a, b int) bool { return a < b })},
		{"=<", 2, l.compare(func(a, b int) bool { return a <= b })},
		{">", 2, l.compare(func(a, b int) bool { return a > b })},
		{">=", 2, l.compare(func(a, b int) bool { return a >= b })},
		{"=:=", 2, l.compare(func(a, b int) bool { return a == b })},
		{"=\\=", 2, l.compare(func(a, b int) bool { return a != b })},
		{"integer", 1, l.ask(func(k api.Kind) bool { return k == api.Int })},
		{"atom", 1, l.ask(func(k api.Kind) bool { return k == api.Atom })},
		{"compound", 1, l.ask(func(k api.Kind) bool { return k == api.Struct })},
		{"known", 1, l.ask(func(api.Kind) bool { return true })},
		// A variable is equal to itself only when it is known to be no structure.
		{"equal", 2, l.liken(l.wait, func(a, b api.Cell) bool { return isSimple(a) && a == b })},
		{"unlike", 2, l.liken(never, func(a, b api.Cell) bool { return a != b && (isSimple(a) || isSimple(b)) })},
	}
}

// guard tells what becomes of one.
func (l *look) guard(g api.Term) api.Outcome {
	if !term.Right(g) {
		return api.Fails
	}
	for _, k := range l.tests() {
		if term.Is(g, k.text, k.arity) {
			return k.holds(g)
		}
	}
	return api.Fails
}

// compare is of two sums.
func (l *look) compare(holds func(a, b int) bool) func(g api.Term) api.Outcome {
	return func(g api.Term) api.Outcome {
		numbers, o, _ := l.sums(g[1:], 2)
		if o != api.Commits {
			return o
		}
		return outcome(holds(numbers[0], numbers[1]))
	}
}

// ask is of one term, followed: of which kind it is.
func (l *look) ask(holds func(k api.Kind) bool) func(g api.Term) api.Outcome {
	return func(g api.Term) api.Outcome {
		c := l.h.Deref(g[1:])[0]
		if c.Kind == api.Var {
			return l.wait(c.Var)
		}
		return outcome(holds(c.Kind))
	}
}

// liken is of two terms, followed, by their first cells: itself tells what becomes of one variable that stands on both sides.
func (l *look) liken(itself func(v api.Name) api.Outcome, holds func(a, b api.Cell) bool) func(g api.Term) api.Outcome {
	return func(g api.Term) api.Outcome {
		middle := term.End(g, 1)
		a, b := l.h.Deref(g[1:middle])[0], l.h.Deref(g[middle:])[0]
		if a.Kind == api.Var && a == b {
			return itself(a.Var)
		}
		o := outcome(holds(a, b))
		for _, c := range []api.Cell{a, b} {
			if c.Kind == api.Var {
				o = l.wait(c.Var)
			}
		}
		return o
	}
}

func never(api.Name) api.Outcome { return api.Fails }

// isSimple tells whether a cell is a number or an atom.
func isSimple(c api.Cell) bool { return c.Kind == api.Int || c.Kind == api.Atom }

func outcome(holds bool) api.Outcome {
	if holds {
		return api.Commits
	}
	return api.Fails
}
