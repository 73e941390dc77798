package node_test

import (
	"fmt"
	"math/big"
	"slices"
	"strings"

	"purlin/api"
	"purlin/arith"
	"purlin/heap"
	"purlin/match"
	"purlin/node"
	"purlin/term"
	"purlin/unify"
	"purlin/wire"
)

// slow is a node by the chapter's words: rows that are gone through, credit as fractions; each event is done on a copy of all of it.
type slow struct {
	p                api.Program
	own, nodes, left int
	queue            []api.Goal
	waiting          []sleeper
	values           []api.Binding
	goals, vars      int
	failed           bool
	asked            []asking
	wanted           []api.Name
	exports, imports []node.Count
	roots            []api.Name
	credit           *big.Rat
	units            int
	collected        *big.Rat
	reports          map[int][2]int
	sent             []string
}

type sleeper struct {
	goal api.Goal
	vars []api.Name
}

type asking struct {
	v    api.Name
	node int
}

func newSlow(p api.Program, i, nodes, budget int) *slow {
	return &slow{p: p, own: i, nodes: nodes, left: budget, credit: new(big.Rat), collected: new(big.Rat), reports: map[int][2]int{}}
}

func (s *slow) copied() *slow {
	c := *s
	c.queue, c.waiting, c.values = slices.Clone(s.queue), slices.Clone(s.waiting), slices.Clone(s.values)
	c.asked, c.wanted, c.roots = slices.Clone(s.asked), slices.Clone(s.wanted), slices.Clone(s.roots)
	c.exports, c.imports = slices.Clone(s.exports), slices.Clone(s.imports)
	c.reports = map[int][2]int{}
	for k, r := range s.reports {
		c.reports[k] = r
	}
	c.sent = nil
	return &c
}

// do is what an event did, and the node behind it: itself, if there is an error.
func (s *slow) do(e api.Event) (text string, behind *slow) {
	defer func() {
		if r := recover(); r != nil {
			errno, isErrno := r.(api.Errno)
			if !isErrno {
				panic(r)
			}
			text, behind = fmt.Sprint("error ", errno), s
		}
	}()
	c := s.copied()
	switch e.Kind {
	case api.Step:
		c.step()
		c.end()
	case api.Receive:
		c.receive(e.From, e.Bytes)
		c.end()
	case api.Submit:
		c.submit(e.Term)
		c.end()
	case api.Collect:
		c.collect()
	default:
		panic(api.ErrForm)
	}
	if n := exportedOf(c.exports); n > api.MaxExports && n > exportedOf(s.exports) {
		panic(api.ErrExports)
	}
	return strings.Join(c.sent, " / "), c
}

func exportedOf(l []node.Count) int {
	met := map[api.Name]int{}
	for _, c := range l {
		if c.Times != 0 {
			met[c.Var]++
		}
	}
	return len(met)
}

func count(l []node.Count, v api.Name, node_, times int) []node.Count {
	for i := range l {
		if l[i].Var == v && l[i].Node == node_ {
			l[i].Times += times
			return l
		}
	}
	return append(l, node.Count{Var: v, Node: node_, Times: times})
}

// fraction is an amount; amount is a fraction in the form that it is told in.
func fraction(a api.Amount) *big.Rat {
	f := big.NewRat(int64(a.Whole), 1)
	for _, b := range a.Bits {
		f.Add(f, new(big.Rat).SetFrac(big.NewInt(1), new(big.Int).Lsh(big.NewInt(1), uint(b))))
	}
	return f
}

func amountText(f *big.Rat) string {
	whole, rest := new(big.Int).DivMod(f.Num(), f.Denom(), new(big.Int))
	text := whole.String()
	for b := f.Denom().BitLen() - 1; b > 0; b-- {
		if rest.Bit(b-1) == 1 {
			text += fmt.Sprint("+", f.Denom().BitLen()-b)
		}
	}
	return text
}

func (s *slow) added(a, b *big.Rat) *big.Rat {
	sum := new(big.Rat).Add(a, b)
	if sum.Cmp(big.NewRat(1<<31, 1)) >= 0 {
		panic(api.ErrFull)
	}
	return sum
}

// part takes off what a message is given.
func (s *slow) part() *big.Rat {
	if s.credit.Sign() == 0 {
		return new(big.Rat)
	}
	last := new(big.Rat).SetFrac(big.NewInt(1), s.credit.Denom())
	give := last
	if s.credit.Cmp(last) == 0 { // one unit, or one bit alone
		give = new(big.Rat).Mul(last, big.NewRat(1, 2))
	}
	s.credit = new(big.Rat).Sub(s.credit, give)
	return give
}

func (s *slow) send(to int, text string) { s.sent = append(s.sent, fmt.Sprint(to, ": ", text)) }

func (s *slow) carry(x api.Term, to int) {
	for _, w := range term.Vars(x) {
		if w.Node == s.own {
			s.exports = count(s.exports, w, to, 1)
		} else if w.Node != to {
			s.send(w.Node, fmt.Sprint("add ", varText(w), " ", to))
		}
	}
}

func (s *slow) sendGoal(g api.Goal, to int) {
	s.carry(g.Term, to)
	s.send(to, "ship "+goalText(g)+" ; "+amountText(s.part()))
}

func (s *slow) sendValue(v api.Name, u api.Term, to int) {
	s.carry(u, to)
	s.send(to, "value "+varText(v)+" "+textOf(u)+" ; "+amountText(s.part()))
}

func (s *slow) gets(v api.Name, u api.Term) {
	s.values = append(s.values, api.Binding{Var: v, Term: u})
	if v.Node == s.own {
		var rest []asking
		for _, a := range s.asked {
			if a.v == v {
				s.sendValue(v, u, a.node)
			} else {
				rest = append(rest, a)
			}
		}
		s.asked = rest
	}
	var rest []sleeper
	for _, w := range s.waiting {
		if slices.Contains(w.vars, v) {
			s.queue = append(s.queue, w.goal)
		} else {
			rest = append(rest, w)
		}
	}
	s.waiting = rest
}

func (s *slow) waits(g api.Goal, vars ...api.Name) {
	s.waiting = append(s.waiting, sleeper{g, vars})
	for _, v := range vars {
		if v.Node != s.own && !slices.Contains(s.wanted, v) {
			s.wanted = append(s.wanted, v)
			s.send(v.Node, "read "+varText(v)+" ; "+amountText(s.part()))
		}
	}
}

func (s *slow) heap() *heap.Heap {
	h := heap.New()
	for _, b := range s.values {
		if e := h.Bind(b.Var, b.Term); e != api.OK {
			panic(fmt.Sprint("bind ", b, e))
		}
	}
	return h
}

func (s *slow) value(v api.Name) (api.Term, bool) {
	for _, b := range s.values {
		if b.Var == v {
			return b.Term, true
		}
	}
	return nil, false
}

func (s *slow) commit(c api.Commit) {
	s.left--
	c.Node = s.own
	for i := range c.Goals {
		c.Goals[i].Name = name(s.own, s.goals)
		s.goals++
	}
	if c.Fails {
		s.failed = true
	}
	s.sent = append(s.sent, commitText(c))
}

func (s *slow) step() {
	if len(s.queue) == 0 {
		panic(api.ErrIdle)
	}
	if s.left == 0 {
		panic(api.ErrFuel)
	}
	g := s.queue[0]
	s.queue = s.queue[1:]
	h := s.heap()
	t := h.Deref(g.Term)
	fails := func(clause int) { s.commit(api.Commit{Goal: g, Fails: true, Clause: clause}) }
	left := func(c api.Commit, l ...api.Term) []api.Goal {
		c.Goal = g
		for _, x := range l {
			c.Goals = append(c.Goals, api.Goal{Term: x})
		}
		s.commit(c)
		return c.Goals
	}
	none := api.Commit{Clause: -1}
	switch {
	case t[0].Kind == api.Var:
		s.waits(g, t[0].Var)
	case t[0].Kind == api.Int:
		fails(-1)
	case term.Is(t, "true", 0):
		left(none)
	case term.Is(t, "=", 2):
		a, b, _ := unify.Equation(t)
		switch r := unify.Step(h, a, b); r.Kind {
		case unify.Done:
			left(none)
		case unify.Clash:
			fails(-1)
		case unify.Parted:
			s.queue = append(s.queue, left(none, r.Parts...)...)
		case unify.Binds:
			if r.Var.Node != s.own {
				s.sendGoal(g, r.Var.Node)
				return
			}
			s.commit(api.Commit{Goal: g, Clause: -1, Bound: []api.Binding{{Var: r.Var, Term: r.Term}}})
			s.gets(r.Var, r.Term)
		}
	case term.Is(t, ":=", 2):
		n, o, waits := arith.Value(h, term.Args(t)[1])
		switch o {
		case api.Fails:
			fails(-1)
		case api.Suspends:
			s.waits(g, waits...)
		default:
			s.queue = append(s.queue, left(none, structure("=", term.Args(t)[0], number(n)))...)
		}
	case term.Is(t, "@", 2):
		goal, p := term.Args(t)[0], h.Deref(term.Args(t)[1])
		switch {
		case p[0].Kind == api.Var:
			s.waits(g, p[0].Var)
		case p[0].Kind == api.Int && p[0].N == s.own:
			s.queue = append(s.queue, left(none, goal)...)
		case p[0].Kind == api.Int && p[0].N >= 0 && p[0].N < s.nodes:
			s.sendGoal(left(none, goal)[0], p[0].N)
		default:
			fails(-1)
		}
	default:
		tried := match.Try(h, s.p, t)
		switch tried.Outcome {
		case api.Fails:
			fails(-1)
		case api.Suspends:
			s.waits(g, tried.Waits...)
		default:
			c := s.p[tried.Clause]
			var fresh []api.Name
			for range match.Free(c) {
				fresh = append(fresh, name(s.own, s.vars+len(fresh)))
			}
			body, e := match.Body(c, tried.Locals, fresh...)
			if e == api.ErrLong {
				fails(tried.Clause)
				return
			}
			s.vars += len(fresh)
			s.queue = append(s.queue, left(api.Commit{Clause: tried.Clause, Fresh: fresh}, body...)...)
		}
	}
}

func (s *slow) isNode(k int) bool { return k >= 0 && k < s.nodes }

func (s *slow) receive(from int, b []byte) {
	if !s.isNode(from) || from == s.own {
		panic(api.ErrRange)
	}
	m, e, _ := wire.Decode(b)
	if e != api.OK {
		panic(api.ErrBytes)
	}
	var names []api.Name
	if m.Tag != api.Ship && m.Tag != api.Return {
		names = append(names, m.Var)
	}
	names = append(names, term.Vars(m.Term)...)
	for _, v := range names {
		if !s.isNode(v.Node) || v.Node == s.own && v.Number >= s.vars {
			panic(api.ErrForm)
		}
	}
	if m.Tag == api.Ship && !s.isNode(m.Goal.Node) || m.Tag == api.Add && (!s.isNode(m.Count) || m.Count == s.own) {
		panic(api.ErrForm)
	}
	own := m.Var.Node == s.own
	if (m.Tag == api.Read || m.Tag == api.Add || m.Tag == api.Release) && !own || m.Tag == api.Value && own || m.Tag == api.Return && s.own != 0 {
		panic(api.ErrOwner)
	}
	u, known := s.value(m.Var)
	if m.Tag == api.Value && !known {
		if e := s.heap().Bind(m.Var, m.Term); e != api.OK {
			panic(e)
		}
	}
	if m.Tag == api.Return {
		s.collected = s.added(s.collected, fraction(m.Credit))
		s.reports[from] = [2]int{m.Count, m.Flags}
		return
	}
	s.credit = s.added(s.credit, fraction(m.Credit))
	if m.Tag == api.Value || m.Tag == api.Ship {
		for _, v := range term.Vars(m.Term) {
			if v.Node != s.own {
				s.imports = count(s.imports, v, v.Node, 1)
			}
		}
	}
	switch m.Tag {
	case api.Read:
		if known {
			s.sendValue(m.Var, u, from)
		} else if !slices.Contains(s.asked, asking{m.Var, from}) {
			s.asked = append(s.asked, asking{m.Var, from})
		}
	case api.Value:
		s.wanted = slices.DeleteFunc(s.wanted, func(v api.Name) bool { return v == m.Var })
		if !known {
			s.gets(m.Var, m.Term)
		}
	case api.Ship:
		s.queue = append(s.queue, api.Goal{Name: m.Goal, Term: m.Term})
	case api.Add:
		s.exports = count(s.exports, m.Var, m.Count, 1)
	case api.Release:
		s.exports = count(s.exports, m.Var, from, -m.Count)
	}
}

func (s *slow) submit(t api.Term) {
	if s.own != 0 {
		panic(api.ErrRange)
	}
	if !term.Right(t) || t[0].Kind == api.Var || t[0].Kind == api.Int {
		panic(api.ErrForm)
	}
	n := 0
	x := slices.Clone(t)
	for i, c := range t {
		if c.Kind != api.Var {
			continue
		}
		if c.Var.Node != -1 || c.Var.Number > n {
			panic(api.ErrForm)
		}
		if c.Var.Number == n {
			n++
		}
		x[i].Var = name(0, s.vars+c.Var.Number)
	}
	s.units++
	s.credit = s.added(s.credit, big.NewRat(1, 1))
	for i := range n {
		s.roots = append(s.roots, name(0, s.vars+i))
	}
	s.vars += n
	s.queue = append(s.queue, api.Goal{Name: name(0, s.goals), Term: x})
	s.goals++
}

func (s *slow) collect() {
	needed := slices.Clone(s.roots)
	for _, c := range s.exports {
		if c.Times != 0 {
			needed = append(needed, c.Var)
		}
	}
	for _, g := range s.queue {
		needed = append(needed, term.Vars(g.Term)...)
	}
	for _, w := range s.waiting {
		needed = append(needed, term.Vars(w.goal.Term)...)
	}
	for i := 0; i < len(needed); i++ {
		u, _ := s.value(needed[i])
		for _, v := range term.Vars(u) {
			if !slices.Contains(needed, v) {
				needed = append(needed, v)
			}
		}
	}
	for _, c := range rising(s.imports) {
		if !slices.Contains(needed, c.Var) {
			s.send(c.Var.Node, fmt.Sprint("release ", varText(c.Var), " ", c.Times))
			s.imports = count(s.imports, c.Var, c.Node, -c.Times)
		}
	}
	s.values = slices.DeleteFunc(s.values, func(b api.Binding) bool { return !slices.Contains(needed, b.Var) })
	s.wanted = slices.DeleteFunc(s.wanted, func(v api.Name) bool { return !slices.Contains(needed, v) })
}

func (s *slow) end() {
	if len(s.queue) > 0 && s.left > 0 || s.credit.Sign() == 0 {
		return
	}
	if s.own == 0 {
		s.collected = s.added(s.collected, s.credit)
	} else {
		s.send(0, fmt.Sprint("return ", len(s.waiting), " ", s.flags(), " ; ", amountText(s.credit)))
	}
	s.credit = new(big.Rat)
}

func (s *slow) flags() int {
	n := 0
	if s.failed {
		n = 1
	}
	if s.left == 0 && len(s.queue) > 0 {
		n += 2
	}
	return n
}

func (s *slow) verdict() api.Verdict {
	if s.own != 0 {
		return api.Running
	}
	failed, spent, waits := s.failed, s.left == 0 && len(s.queue) > 0, len(s.waiting) > 0
	for _, r := range s.reports {
		failed, spent, waits = failed || r[1]%2 == 1, spent || r[1] >= 2, waits || r[0] > 0
	}
	switch {
	case failed:
		return api.Failed
	case s.collected.Cmp(big.NewRat(int64(s.units), 1)) != 0 || len(s.queue) > 0 && s.left > 0:
		return api.Running
	case spent:
		return api.OutOfFuel
	case waits:
		return api.Suspended
	}
	return api.Terminated
}

// rising are counts that are not 0, in order.
func rising(l []node.Count) []node.Count {
	l = slices.DeleteFunc(slices.Clone(l), func(c node.Count) bool { return c.Times == 0 })
	for range l {
		for i := range len(l) - 1 {
			if a, b := l[i], l[i+1]; term.Less(b.Var, a.Var) || a.Var == b.Var && b.Node < a.Node {
				l[i], l[i+1] = b, a
			}
		}
	}
	return l
}

// state is told as that of a node is.
func (s *slow) state() string {
	var waiting []api.Goal
	for _, w := range s.waiting {
		waiting = append(waiting, w.goal)
	}
	return strings.Join([]string{
		"queue " + listed(s.queue, goalText),
		"waits " + listed(waiting, goalText),
		"knows " + listed(s.heap().Bindings(), bindingText),
		"out " + listed(rising(s.exports), countText),
		"in " + listed(rising(s.imports), countText),
		"credit " + amountText(s.credit),
		fmt.Sprint("collected ", amountText(s.collected), " of ", s.units),
		fmt.Sprint("left ", s.left),
		"roots " + listed(s.roots, varText),
		fmt.Sprint("verdict ", s.verdict()),
	}, "\n")
}
