package wire

import "purlin/api"

// Seven bits of a number stand in a byte; more is added to all bytes but the last one.
const (
	group = 7
	more  = 1 << group
)

// writer gathers bytes.
type writer struct{ b []byte }

func (w *writer) octet(n int) { w.b = append(w.b, byte(n)) }

func (w *writer) number(n int) {
	for ; n >= more; n >>= group {
		w.octet(n%more + more)
	}
	w.octet(n)
}

func (w *writer) text(s string) {
	w.number(len(s))
	w.b = append(w.b, s...)
}

// termWriter writes right names and terms.
type termWriter struct{ writer }

func (w *termWriter) name(n api.Name) {
	w.octet(n.Node)
	w.number(n.Number)
}

func (w *termWriter) term(t api.Term) {
	w.number(len(t))
	for _, c := range t {
		w.cell(c)
	}
}

func (w *termWriter) cell(c api.Cell) {
	s := cellShapeOf(c.Kind)
	w.octet(int(c.Kind))
	if s.number {
		w.number(fold(c.N))
	}
	if s.text {
		w.text(c.Text)
	}
	if s.arity {
		w.octet(c.N)
	}
	if s.variable {
		w.name(c.Var)
	}
}

// fold lays the numbers below 0 between the others, so that small ones of both kinds have few bytes.
func fold(n int) int {
	if n < 0 {
		return -2*n - 1
	}
	return 2 * n
}

// unfold is the number of which a number not below 0 is the fold.
func unfold(n int) int {
	if n%2 == 1 {
		return -(n + 1) / 2
	}
	return n / 2
}

// messageWriter writes right messages.
type messageWriter struct{ termWriter }

func (w *messageWriter) message(m api.Message) {
	s, _ := shapeOf(m.Tag)
	w.octet(int(m.Tag))
	if s.variable {
		w.name(m.Var)
	}
	if s.goal {
		w.name(m.Goal)
	}
	if s.term {
		w.term(m.Term)
	}
	if s.count.named() {
		w.number(m.Count)
	}
	if s.flags.named() {
		w.number(m.Flags)
	}
	if s.credit {
		w.amount(m.Credit)
	}
}

func (w *messageWriter) amount(a api.Amount) {
	w.number(a.Whole)
	w.number(len(a.Bits))
	last := 0
	for _, b := range a.Bits {
		w.number(b - last)
		last = b
	}
}
