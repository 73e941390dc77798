package wire

import (
	"slices"

	"purlin/api"
	"purlin/term"
)

// span is the numbers that may stand in a place, from least to most.
type span struct{ least, most int }

func (s span) has(n int) bool { return s.least <= n && n <= s.most }

// named tells whether a message has the number at all: one that it has not can be nothing but 0.
func (s span) named() bool { return s != span{} }

const (
	most    = 1<<31 - 1 // of a name's Number, a Count, an amount's Whole
	mostBit = 1 << 20   // of an amount's Bits
)

func nodes() span { return span{0, api.MaxNodes - 1} }

func numbers() span { return span{0, most} }

// shape is which parts a message has. They stand in this order in each message's bytes, so the shape is all there is to tell.
type shape struct {
	variable, goal, term bool
	count, flags         span
	credit               bool
}

// shapeOf is the shape of the messages of a tag; none, if it is no tag.
func shapeOf(tag api.Tag) (s shape, ok bool) {
	switch tag {
	case api.Value:
		s.term = true
		fallthrough
	case api.Read:
		s.variable, s.credit = true, true
	case api.Ship:
		s.goal, s.term, s.credit = true, true, true
	case api.Add:
		s.variable, s.count = true, nodes()
	case api.Release:
		s.variable, s.count = true, span{1, most}
	case api.Return:
		s.count, s.flags, s.credit = numbers(), span{0, 3}, true
	default:
		return shape{}, false
	}
	return s, true
}

// fits tells whether all that the shape names is right in a message, and all else is empty.
func (s shape) fits(m api.Message) bool {
	return fitsOrEmpty(s.variable, rightName(m.Var), m.Var == api.Name{}) &&
		fitsOrEmpty(s.goal, rightName(m.Goal), m.Goal == api.Name{}) &&
		fitsOrEmpty(s.term, rightTerm(m.Term), len(m.Term) == 0) &&
		s.count.has(m.Count) && s.flags.has(m.Flags) &&
		fitsOrEmpty(s.credit, rightCredit(m.Credit), isZero(m.Credit))
}

func fitsOrEmpty(named, right, empty bool) bool {
	if named {
		return right
	}
	return empty
}

func rightName(n api.Name) bool { return nodes().has(n.Node) && numbers().has(n.Number) }

func rightTerm(t api.Term) bool {
	return term.Global(t) && !slices.ContainsFunc(term.Vars(t), func(n api.Name) bool { return !rightName(n) })
}

func rightCredit(a api.Amount) bool {
	return numbers().has(a.Whole) && rise(a.Bits) && !isZero(a)
}

func isZero(a api.Amount) bool { return a.Whole == 0 && len(a.Bits) == 0 }

func rise(bits []int) bool {
	last := 0
	for _, b := range bits {
		if !(span{last + 1, mostBit}).has(b) {
			return false
		}
		last = b
	}
	return true
}

// cellShape is which parts a cell has, in this order.
type cellShape struct{ number, text, arity, variable bool }

// cellShapeOf is the shape of the cells of a kind; that of what is no kind has nothing.
func cellShapeOf(k api.Kind) (s cellShape) {
	switch k {
	case api.Struct:
		s.arity = true
		fallthrough
	case api.Atom:
		s.text = true
	case api.Int:
		s.number = true
	case api.Var:
		s.variable = true
	}
	return s
}

// isCell tells whether a cell may stand in a term: term.Right says so of one that has it in front, and behind it numbers, as many as it needs.
func isCell(c api.Cell) bool {
	t := api.Term{c}
	for range arguments(c) {
		t = append(t, api.Cell{Kind: api.Int})
	}
	return term.Right(t)
}

func arguments(c api.Cell) int {
	if !cellShapeOf(c.Kind).arity {
		return 0
	}
	return c.N
}

// isText tells names and signs: both can be those of structures of two.
func isText(s string) bool { return isCell(api.Cell{Kind: api.Struct, Text: s, N: 2}) }
