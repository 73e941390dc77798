package shell

import (
	"slices"
	"strings"

	"purlin/api"
	"purlin/cluster"
	"purlin/fair"
	"purlin/syntax"
)

// form is how the lines of one first word are, and what they do.
type form struct {
	numbers int               // how many stand behind it
	spare   bool              // the last one of them may be missing
	text    func(*order) bool // what a text behind them must be; nil: there is none
	alone   bool              // it needs no cluster
	deed    func(*session, order) answer
}

func forms() map[string]form {
	return map[string]form{
		"clause":  {text: (*order).hasWord, alone: true, deed: (*session).clause},
		"cluster": {numbers: 2, alone: true, deed: (*session).cluster},
		"submit":  {text: (*order).hasWord, deed: (*session).submit},
		"step":    {numbers: 2, spare: true, deed: (*session).step},
		"collect": {numbers: 2, spare: true, deed: (*session).collect},
		"deliver": {numbers: 2, spare: true, deed: (*session).deliver},
		"drop":    {numbers: 1, deed: (*session).drop},
		"double":  {numbers: 1, deed: (*session).double},
		"resend":  {numbers: 1, deed: (*session).resend},
		"crash":   {numbers: 1, deed: (*session).crash},
		"restart": {numbers: 1, deed: (*session).restart},
		"fair":    {numbers: 1, deed: (*session).fair},
		"verdict": {deed: (*session).verdict},
		"see":     {numbers: 1, text: (*order).isGlobal, deed: (*session).see},
		"goals":   {numbers: 1, deed: (*session).goals},
		"net":     {deed: (*session).net},
		"trace":   {deed: (*session).trace},
		"check":   {deed: (*session).check},
		"credit":  {deed: (*session).credit},
		"refs":    {numbers: 1, deed: (*session).refs},
		"show":    {alone: true, deed: (*session).show},
	}
}

// session is what the lines so far have made.
type session struct {
	*cluster.Cluster // nil: there is none yet
	forms            map[string]form
	kept             api.Program
	made             api.Program // that of the cluster
	nodes            int
}

func newSession() *session { return &session{forms: forms()} }

func (s *session) answer(l line) answer {
	f, some := s.forms[l.first]
	if !some {
		return answer{"word"}
	}
	o, right := f.read(l)
	switch {
	case !right:
		return answer{"word"}
	case s.Cluster == nil && !f.alone:
		return answer{"none"}
	}
	return f.deed(s, o)
}

func (s *session) clause(o order) answer {
	p, e, at := syntax.Program(o.text)
	switch {
	case e != api.OK:
		return failed(e, at)
	case len(s.kept)+len(p) > api.MaxClauses:
		return failed(api.ErrLong)
	}
	s.kept = slices.Concat(s.kept, p)
	return answer{joined("ok", decimal(len(s.kept)))}
}

func (s *session) show(order) answer {
	text, _ := syntax.PrintProgram(s.kept) // it was read from texts
	return each(strings.FieldsFunc(text, func(r rune) bool { return r == '\n' })...)
}

func (s *session) cluster(o order) answer {
	c, e := cluster.New(s.kept, o.numbers[0], o.numbers[1])
	if e == api.OK {
		s.Cluster, s.made, s.nodes = c, s.kept, o.numbers[0]
	}
	return done(e)
}

// submit: the cluster tells no place, so a text that is no goal is found ahead of it.
func (s *session) submit(o order) answer {
	if _, _, e, at := syntax.Term(o.text); e != api.OK && s.Up(0) {
		return failed(e, at)
	}
	return s.do(api.Op{Kind: api.DoSubmit, Text: o.text})
}

func (s *session) do(o api.Op) answer { return done(s.Do(o)) }

func (s *session) ofNode(kind api.OpKind, o order) answer {
	return s.do(api.Op{Kind: kind, Node: o.numbers[0], Cut: o.numbers[1]})
}

func (s *session) ofDatagram(kind api.OpKind, o order) answer {
	return s.do(api.Op{Kind: kind, K: o.numbers[0], Cut: o.numbers[1]})
}

func (s *session) step(o order) answer { return s.ofNode(api.DoStep, o) }

func (s *session) collect(o order) answer { return s.ofNode(api.DoCollect, o) }

func (s *session) resend(o order) answer { return s.ofNode(api.Resend, o) }

func (s *session) crash(o order) answer { return s.ofNode(api.Crash, o) }

func (s *session) restart(o order) answer { return s.ofNode(api.Restart, o) }

func (s *session) deliver(o order) answer { return s.ofDatagram(api.Deliver, o) }

func (s *session) drop(o order) answer { return s.ofDatagram(api.Drop, o) }

func (s *session) double(o order) answer { return s.ofDatagram(api.Double, o) }

func (s *session) fair(o order) answer {
	v, rounds, e := fair.Go(s.Cluster, o.numbers[0])
	if e != api.OK {
		return failed(e)
	}
	return answer{joined(verdictText(v), decimal(rounds))}
}
