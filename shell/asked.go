package shell

import (
	"purlin/api"
	"purlin/credit"
	"purlin/node"
	"purlin/trace"
)

// What is asked changes nothing.

func (s *session) verdict(order) answer { return answer{verdictText(s.Verdict())} }

func (s *session) see(o order) answer {
	value, e := s.Observe(o.numbers[0], o.variable)
	if e != api.OK {
		return failed(e)
	}
	return answer{termText(value)}
}

// ofOne answers what is told of a node, up or down.
func (s *session) ofOne(o order, tell func(n *node.Node) []string) answer {
	d := s.Node(o.numbers[0])
	if d == nil {
		return failed(api.ErrRange)
	}
	return each(tell(d.Node())...)
}

func (s *session) goals(o order) answer {
	return s.ofOne(o, func(n *node.Node) []string {
		return append(goalTexts("queue", n.Queue()...), goalTexts("waits", n.Waiting()...)...)
	})
}

func goalTexts(where string, goals ...api.Goal) (l []string) {
	for _, g := range goals {
		l = append(l, joined(where, nameText(g.Name), termText(g.Term)))
	}
	return l
}

func (s *session) refs(o order) answer {
	return s.ofOne(o, func(n *node.Node) []string {
		return append(countTexts("out", n.Exports()...), countTexts("in", n.Imports()...)...)
	})
}

func countTexts(way string, counts ...node.Count) (l []string) {
	for _, c := range counts {
		l = append(l, joined(way, variableText(c.Var), decimal(c.Node), decimal(c.Times)))
	}
	return l
}

func (s *session) net(order) answer {
	var l []string
	for k, d := range s.Pending() {
		kind := "data"
		if d.Ack {
			kind = "ack"
		}
		l = append(l, joined(decimal(k), decimal(d.From), decimal(d.To), kind, decimal(d.Seq)))
	}
	return each(l...)
}

func (s *session) trace(order) answer {
	var l []string
	for _, c := range s.Commits() {
		text, _ := trace.Print(c) // its terms are right
		l = append(l, text)
	}
	return each(l...)
}

func (s *session) check(order) answer {
	e, at := trace.Check(s.made, s.nodes, s.Submitted(), s.Commits()...)
	if e != api.OK {
		return answer{joined("trace", decimal(int(e)), decimal(at))}
	}
	return done(e)
}

func (s *session) credit(order) answer {
	collected, units := s.Node(0).Node().Collected()
	return answer{joined(credit.Print(collected), decimal(units))}
}
