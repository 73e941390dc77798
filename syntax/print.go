package syntax

import (
	"strconv"
	"strings"

	"purlin/api"
)

// printer writes right terms; cells are those that are still to be written.
type printer struct {
	strings.Builder
	cells api.Term
}

// part writes the next term, in brackets if it binds less than it must.
func (w *printer) part(must binding) {
	c := w.cells[0]
	w.cells = w.cells[1:]
	if bindingOf(c.Text) >= must {
		w.bare(c)
		return
	}
	w.WriteByte('(')
	w.bare(c)
	w.WriteByte(')')
}

// bare writes the term that begins with a cell; its other cells are the next ones.
func (w *printer) bare(c api.Cell) {
	switch b := bindingOf(c.Text); {
	case c.Kind == api.Int:
		w.WriteString(strconv.Itoa(c.N))
	case c.Kind == api.Var:
		w.WriteString(variable(c.Var))
	case b == asPrim:
		w.WriteString(c.Text)
		w.arguments(c.N)
	default:
		left, right := sides(b)
		w.part(left)
		w.WriteString(" " + c.Text + " ")
		w.part(right)
	}
}

// arguments writes the next n terms as those of a structure; an atom has none, and no brackets.
func (w *printer) arguments(n int) {
	before := "("
	for range n {
		w.WriteString(before)
		w.part(asAt)
		before = ", "
	}
	if n > 0 {
		w.WriteByte(')')
	}
}

func variable(v api.Name) string {
	if v.Node == -1 {
		return "X" + strconv.Itoa(v.Number)
	}
	return "?" + strconv.Itoa(v.Node) + "_" + strconv.Itoa(v.Number)
}
