package arith

import "purlin/api"

// operator makes a number of as many as its arity; reckon answers false where there is none.
type operator struct {
	text   string
	arity  int
	reckon func(l ...int) (int, bool)
}

// operators are all that sums have.
func operators() []operator {
	return []operator{
		{"+", 2, always(func(a, b int) int { return a + b })},
		{"-", 2, always(func(a, b int) int { return a - b })},
		{"*", 2, always(func(a, b int) int { return a * b })},
		{"div", 2, unlessBy0(div)},
		{"mod", 2, unlessBy0(func(a, b int) int { return a - b*div(a, b) })},
		{"min", 2, always(func(a, b int) int { return min(a, b) })},
		{"max", 2, always(func(a, b int) int { return max(a, b) })},
		{"abs", 1, func(l ...int) (int, bool) { return max(l[0], -l[0]), true }},
	}
}

func always(f func(a, b int) int) func(l ...int) (int, bool) {
	return func(l ...int) (int, bool) { return f(l[0], l[1]), true }
}

func unlessBy0(f func(a, b int) int) func(l ...int) (int, bool) {
	return func(l ...int) (int, bool) {
		if l[1] == 0 {
			return 0, false
		}
		return f(l[0], l[1]), true
	}
}

// div goes down to the next whole number, where Go's own goes towards 0.
func div(a, b int) int {
	q := a / b
	if a%b != 0 && (a < 0) != (b < 0) {
		q--
	}
	return q
}

// result is of numbers that a term may have: what any operator makes of those is far from where an int goes round.
func (o operator) result(l ...int) (int, bool) {
	n, ok := o.reckon(l...)
	if !ok || tooGreat(n) {
		return 0, false
	}
	return n, true
}

// tooGreat tells whether a number stands in no term.
func tooGreat(n int) bool { return n < -api.MaxNumber || n > api.MaxNumber }
