package syntax

import (
	"purlin/api"
	"purlin/lex"
	"purlin/term"
)

// cursor is a place in the lexer's tokens. It never passes the End: no rule takes it.
type cursor struct {
	tokens []lex.Token
	place  int
}

func (c *cursor) now() lex.Token { return c.tokens[c.place] }

// sign goes on behind a sign, if it stands here.
func (c *cursor) sign(text string) bool {
	if c.now().Text != text {
		return false
	}
	c.place++
	return true
}

// operator goes on behind a sign of a binding, if one stands here, and tells which.
func (c *cursor) operator(b binding) (string, bool) {
	t := c.now()
	if t.Kind != lex.Sign || bindingOf(t.Text) != b {
		return "", false
	}
	c.place++
	return t.Text, true
}

// scope is the variables of one clause, or of one term.
type scope struct {
	numbers map[string]int
	locals  int
}

func newScope() scope { return scope{numbers: map[string]int{}} }

// fault is why, and at which place, a parser gives up.
type fault struct {
	e  api.Errno
	at int
}

// parser goes down the grammar: a method for each row of it. A term that is too long is empty till it has been read whole, since its error is told just then.
type parser struct {
	cursor
	scope
}

// unfit is the fault of a token at whose place another one must stand.
func (p *parser) unfit() fault {
	t := p.now()
	if t.Kind == lex.End {
		return fault{api.ErrEnd, t.At}
	}
	return fault{api.ErrSyntax, t.At}
}

// need goes on behind a sign that must stand here.
func (p *parser) need(text string) {
	if !p.sign(text) {
		panic(p.unfit())
	}
}

// token goes on behind a token of a kind that must stand here.
func (p *parser) token(kind lex.Kind) lex.Token {
	t := p.now()
	if t.Kind != kind {
		panic(p.unfit())
	}
	p.place++
	return t
}

func (p *parser) program() api.Program {
	var l api.Program
	for p.now().Kind != lex.End {
		// What begins no clause is no clause too many: clause tells of it.
		if t := p.now(); t.Kind == lex.Name && len(l) == api.MaxClauses {
			panic(fault{api.ErrLong, t.At})
		}
		l = append(l, p.clause())
	}
	return l
}

func (p *parser) clause() api.Clause {
	p.scope = newScope()
	c := api.Clause{Head: p.whole(p.head)}
	if p.sign(":-") {
		c.Guards, c.Body = p.behind()
	}
	p.need(".")
	c.Locals = p.locals
	return c
}

// behind is what stands behind a clause's ":-"; whether its first row is guards is known at that row's end alone.
func (p *parser) behind() (guards, body []api.Term) {
	r := p.goals()
	if p.sign("|") {
		guards = r.atMost(api.MaxGuards)
		r = p.goals()
	}
	return guards, r.atMost(api.MaxBody)
}

// row is the guards or the goals of a clause, and where each begins.
type row struct {
	terms  []api.Term
	places []int
}

func (r row) atMost(n int) []api.Term {
	if len(r.terms) > n {
		panic(fault{api.ErrLong, r.places[n]})
	}
	return r.terms
}

func (p *parser) goals() row {
	var r row
	for more := true; more; more = p.sign(",") {
		r.places = append(r.places, p.now().At)
		r.terms = append(r.terms, p.whole(p.at))
	}
	return r
}

// alone is one term that is the whole text.
func (p *parser) alone() (api.Term, int) {
	t := p.whole(p.at)
	if p.now().Kind != lex.End {
		panic(p.unfit())
	}
	return t, p.locals
}

// whole is what a rule reads, which must not be too long.
func (p *parser) whole(rule func() api.Term) api.Term {
	first := p.now().At
	t := rule()
	if len(t) == 0 {
		panic(fault{api.ErrLong, first})
	}
	return t
}

// head reads atoms and structures inside of terms, too: they have the same form.
func (p *parser) head() api.Term {
	name := p.token(lex.Name).Text
	open := p.now().At
	if !p.sign("(") {
		return term.OfAtom(name)
	}
	args := p.ats()
	p.need(")")
	if len(args) > api.MaxArity {
		panic(fault{api.ErrLong, open})
	}
	return build(name, args...)
}

// build is a structure; empty if it is too long, as it is too with a part that is empty.
func build(text string, args ...api.Term) api.Term {
	t, _ := term.Make(text, args...)
	return t
}

func (p *parser) ats() []api.Term {
	l := []api.Term{p.at()}
	for p.sign(",") {
		l = append(l, p.at())
	}
	return l
}

func (p *parser) at() api.Term   { return p.pair(asAt, p.rel, p.sum) }
func (p *parser) rel() api.Term  { return p.pair(asRel, p.sum, p.sum) }
func (p *parser) sum() api.Term  { return p.chain(asSum, p.prod) }
func (p *parser) prod() api.Term { return p.chain(asProd, p.prim) }

// pair is a row of the grammar whose sign comes once, or is missing.
func (p *parser) pair(b binding, left, right func() api.Term) api.Term {
	t := left()
	if sign, ok := p.operator(b); ok {
		t = build(sign, t, right())
	}
	return t
}

// chain is a row of the grammar whose sign comes any number of times.
func (p *parser) chain(b binding, part func() api.Term) api.Term {
	t := part()
	for sign, ok := p.operator(b); ok; sign, ok = p.operator(b) {
		t = build(sign, t, part())
	}
	return t
}

func (p *parser) prim() api.Term {
	if p.sign("(") {
		t := p.at()
		p.need(")")
		return t
	}
	if p.sign("-") {
		return p.number(-1)
	}
	switch p.now().Kind {
	case lex.Name:
		return p.head()
	case lex.Number:
		return p.number(1)
	case lex.Variable:
		return p.variable()
	case lex.Global:
		return p.global()
	}
	panic(p.unfit())
}

func (p *parser) number(factor int) api.Term {
	t := p.token(lex.Number)
	return fitting(term.OfInt(factor*t.N), t)
}

func (p *parser) global() api.Term {
	t := p.token(lex.Global)
	return fitting(term.OfVar(api.Name{Node: t.Node, Number: t.N}), t)
}

// fitting is a term of one cell, which is none if a number of its token may not be.
func fitting(made api.Term, t lex.Token) api.Term {
	if len(made) == 0 {
		panic(fault{api.ErrNumber, t.At})
	}
	return made
}

func (p *parser) variable() api.Term {
	t := p.token(lex.Variable)
	n, known := p.numbers[t.Text]
	if !known {
		if p.locals == api.MaxLocals {
			panic(fault{api.ErrLong, t.At})
		}
		n = p.locals
		p.locals++
	}
	// Each _ is new: it is never known.
	if t.Text != "_" {
		p.numbers[t.Text] = n
	}
	return term.OfVar(api.Name{Node: -1, Number: n})
}
