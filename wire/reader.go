package wire

import "purlin/api"

// mostNumber is the greatest number that is read anywhere; numberBits are those of the groups that it needs.
const (
	mostNumber = 1 << 40
	numberBits = 6 * group
)

// reader goes through bytes from the front. It keeps the place of what is wrong first; from then on it reads zeros.
type reader struct {
	b     []byte
	at    int
	wrong bool
	place int
}

func (r *reader) fail(place int) {
	if !r.wrong {
		r.wrong, r.place = true, place
	}
}

// take are the next n bytes, cut so that nothing behind them can be reached.
func (r *reader) take(n int) []byte {
	if n > len(r.b)-r.at {
		r.fail(len(r.b))
	}
	if r.wrong {
		return nil
	}
	cut := r.b[r.at : r.at+n : r.at+n]
	r.at += n
	return cut
}

func (r *reader) octet() int {
	for _, c := range r.take(1) {
		return int(c)
	}
	return 0
}

// number reads one that may stand here. As soon as its bytes show that it cannot be, whatever follows, it is told, even if the bytes end then.
func (r *reader) number(may span) int {
	at, n := r.at, 0
	for shift := 0; shift < numberBits; shift += group {
		c := r.octet()
		n += (c % more) << shift
		if c >= more {
			continue
		}
		if c == 0 && shift > 0 || !may.has(n) {
			break
		}
		return n
	}
	r.fail(at)
	return 0
}

// end tells of bytes that are left.
func (r *reader) end() {
	if r.at < len(r.b) {
		r.fail(r.at)
	}
}

// readAll reads one thing that all of the bytes are.
func readAll[T any](b []byte, read func(r *messageReader) T) (T, api.Errno, int) {
	var none T
	if len(b) > api.MaxMessage {
		return none, api.ErrLong, api.MaxMessage
	}
	var r messageReader
	r.b = b
	x := read(&r)
	r.end()
	if r.wrong {
		return none, api.ErrBytes, r.place
	}
	return x, api.OK, 0
}

// termReader reads texts, names and terms.
type termReader struct{ reader }

func (r *termReader) text() string {
	at := r.at
	s := string(r.take(r.number(span{1, api.MaxName})))
	if !isText(s) {
		r.fail(at)
	}
	return s
}

func (r *termReader) name() (n api.Name) {
	at := r.at
	n.Node = r.octet()
	if !nodes().has(n.Node) {
		r.fail(at)
	}
	n.Number = r.number(numbers())
	return n
}

func (r *termReader) term() (t api.Term) {
	n := r.number(span{1, api.MaxCells})
	open := 1
	for left := n - 1; left >= 0 && !r.wrong; left-- {
		at := r.at
		c := r.cell()
		t = append(t, c)
		open += arguments(c) - 1
		if open > left || open == 0 && left > 0 {
			r.fail(at)
		}
	}
	return t
}

func (r *termReader) cell() (c api.Cell) {
	at := r.at
	c.Kind = api.Kind(r.octet())
	s := cellShapeOf(c.Kind)
	if s.number {
		c.N = unfold(r.number(span{0, mostNumber}))
	}
	if s.text {
		c.Text = r.text()
	}
	if s.arity {
		c.N = r.octet()
	}
	if s.variable {
		c.Var = r.name()
	}
	if !isCell(c) {
		r.fail(at)
	}
	return c
}

// messageReader reads messages.
type messageReader struct{ termReader }

func (r *messageReader) message() (m api.Message) {
	m.Tag = api.Tag(r.octet())
	s, ok := shapeOf(m.Tag)
	if !ok {
		r.fail(0)
	}
	if s.variable {
		m.Var = r.name()
	}
	if s.goal {
		m.Goal = r.name()
	}
	if s.term {
		m.Term = r.term()
	}
	if s.count.named() {
		m.Count = r.number(s.count)
	}
	if s.flags.named() {
		m.Flags = r.number(s.flags)
	}
	if s.credit {
		m.Credit = r.amount()
	}
	return m
}

func (r *messageReader) amount() (a api.Amount) {
	at := r.at
	a.Whole = r.number(numbers())
	last := 0
	for n := r.number(span{0, mostBit}); n > 0 && !r.wrong; n-- {
		last += r.number(span{1, mostBit - last})
		a.Bits = append(a.Bits, last)
	}
	if isZero(a) {
		r.fail(at)
	}
	return a
}
