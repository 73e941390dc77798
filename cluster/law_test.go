package cluster_test

import (
	"bytes"
	"fmt"
	"math"
	"math/rand"
	"slices"
	"strconv"
	"testing"

	"purlin/api"
	"purlin/cluster"
	"purlin/durable"
	"purlin/node"
	"purlin/syntax"
)

// slow is a cluster by the chapter's words: a row of datagrams, nodes, and what has happened is read off the journals.
type slow struct {
	program api.Program
	budget  int
	nodes   []*durable.Durable
	waits   []api.Datagram
	commits []api.Commit
}

func newSlow(p api.Program, nodes, budget int) *slow {
	s := &slow{program: p, budget: budget}
	for i := range nodes {
		d, _ := durable.New(p, i, nodes, budget)
		s.nodes = append(s.nodes, d)
	}
	return s
}

func (s *slow) isNode(i int) bool { return i >= 0 && i < len(s.nodes) }

// refuses is the first error that applies ahead of the operation's own.
func (s *slow) refuses(o api.Op) api.Errno {
	ofDatagram := o.Kind == api.Deliver || o.Kind == api.Drop || o.Kind == api.Double
	recorded := o.Kind == api.DoStep || o.Kind == api.DoCollect || o.Kind == api.DoSubmit || o.Kind == api.Deliver
	for _, x := range []struct {
		applies bool
		e       api.Errno
	}{
		{o.Kind < api.DoStep || o.Kind > api.Restart, api.ErrForm},
		{!ofDatagram && !s.isNode(o.Node) || o.Kind == api.DoSubmit && o.Node != 0, api.ErrRange},
		{ofDatagram && (o.K < 0 || o.K >= len(s.waits)), api.ErrNone},
		{o.Cut < 0, api.ErrForm},
		{o.Cut > 0 && !recorded, api.ErrForm},
	} {
		if x.applies {
			return x.e
		}
	}
	return api.OK
}

func (s *slow) do(o api.Op) api.Errno {
	if e := s.refuses(o); e != api.OK {
		return e
	}
	var done node.Done
	var sent []api.Datagram
	var e api.Errno
	switch o.Kind {
	case api.DoStep:
		done, sent, e = s.nodes[o.Node].Do(api.Event{Kind: api.Step}, o.Cut)
	case api.DoCollect:
		done, sent, e = s.nodes[o.Node].Do(api.Event{Kind: api.Collect}, o.Cut)
	case api.DoSubmit:
		if !s.nodes[0].Up() {
			return api.ErrDown
		}
		goal, _, wrong, _ := syntax.Term(o.Text)
		if wrong != api.OK {
			return wrong
		}
		done, sent, e = s.nodes[0].Do(api.Event{Kind: api.Submit, Term: goal}, o.Cut)
	case api.Deliver:
		d := s.waits[o.K]
		s.waits = slices.Concat(s.waits[:o.K], s.waits[o.K+1:])
		done, sent, e = s.nodes[d.To].Take(d, o.Cut)
	case api.Drop:
		s.waits = slices.Concat(s.waits[:o.K], s.waits[o.K+1:])
	case api.Double:
		sent = s.waits[o.K : o.K+1]
	case api.Resend:
		sent, e = s.nodes[o.Node].Resend()
	case api.Crash:
		e = s.nodes[o.Node].Crash()
	case api.Restart:
		_, e = s.nodes[o.Node].Restart()
	}
	s.waits = slices.Concat(s.waits, sent)
	s.commits = append(s.commits, done.Commit...)
	return e
}

// submitted are the last goals of the queue behind each Submit of node 0's records.
func (s *slow) submitted() (l []api.Goal) {
	n, _ := node.New(s.program, 0, len(s.nodes), s.budget)
	for _, e := range s.nodes[0].Events() {
		if n.Do(e); e.Kind == api.Submit {
			q := n.Queue()
			l = append(l, q[len(q)-1])
		}
	}
	return l
}

func (s *slow) text() string {
	verdict := api.Running
	if s.nodes[0].Up() {
		verdict = s.nodes[0].Node().Verdict()
	}
	text := fmt.Sprint(s.waits, "\n", s.commits, "\n", s.submitted(), "\n", verdict)
	for _, d := range s.nodes {
		text += fmt.Sprint("\n", d.Up(), "\n", durableText(d))
	}
	return text
}

const lawProgram = example + `
	stream(S) :- gen(4, L) @ 1, sum(L, 0, S) @ 2.
	gen(N, L) :- N =< 0 | L = nil. gen(N, L) :- N > 0 | L = cons(N, T), M := N - 1, gen(M, T).
	sum(nil, A, S) :- S := A. sum(cons(X, T), A, S) :- B := A + X, sum(T, B, S).
	spread(N, P, R) :- N =< 0 | R = leaf.
	spread(N, P, R) :- N > 0 | R = node(A, B), M := N - 1, Q := mod(P + 1, 3), spread(M, Q, A) @ Q, spread(M, P, B) @ P.
	meet(X, Y) :- left(X) @ 1, right(Y) @ 2, X = Y. left(X) :- X = f(A, B), B = A. right(Y) :- Y = f(C, D).
	ring(X, Y, Z) :- X = Y @ 1, Y = Z @ 2, Z = X, Z = g(W) @ 1, new(W) @ 2, X = g(U) @ 2. new(W) :- W = h(V), V = W.
	bad(X) :- X = a @ 1, X = b @ 2. hang(X) :- w(X) @ 1, w(Y) @ 2. turn(X) :- turn(X) @ 1, r(3) @ 2.
	drop(X) :- X = f(A, B, C), copy(A, B) @ 1, copy(B, C) @ 2, A = 1. copy(X, Y) :- integer(X) | Y = X.`

var goals = []string{"p(2)", "p(0)", "stream(S)", "spread(3, 0, R)", "meet(X, Y)", "ring(X, Y, Z)", "bad(X)", "hang(X)", "turn(1)", "drop(X)", "X = f(X)", "A = B"}

// someOp is an operation by chance, of a cluster of so many nodes with so many datagrams.
func someOp(r *rand.Rand, nodes, waits int) (o api.Op) {
	o.Node, o.K = r.Intn(nodes), r.Intn(max(1, waits))
	switch n := r.Intn(100); {
	case n < 40:
		o.Kind = api.DoStep
	case n < 44:
		o.Kind = api.DoCollect
	case n < 46:
		o.Kind, o.Node, o.Text = api.DoSubmit, 0, goals[r.Intn(len(goals))]
	case n < 76:
		o.Kind = api.Deliver
	case n < 80:
		o.Kind = api.Drop
	case n < 83:
		o.Kind = api.Double
	case n < 88:
		o.Kind = api.Resend
	case n < 91:
		o.Kind = api.Crash
	default:
		o.Kind = api.Restart
	}
	if o.Kind <= api.Deliver && r.Intn(8) == 0 {
		o.Cut = 1 + r.Intn(40)
	}
	return o
}

// wrongOp is one that is mostly wrong somewhere.
func wrongOp(r *rand.Rand, nodes, waits int) api.Op {
	far := []int{-1, math.MinInt, math.MaxInt, nodes, waits}
	o := someOp(r, nodes, waits)
	if r.Intn(4) == 0 {
		o.Kind = api.OpKind(r.Intn(12))
	}
	if r.Intn(4) == 0 {
		o.Node = far[r.Intn(len(far))]
	}
	if r.Intn(4) == 0 {
		o.K = far[r.Intn(len(far))]
	}
	if r.Intn(4) == 0 {
		o.Cut = far[r.Intn(3)]
	}
	if r.Intn(2) == 0 {
		o.Text = []string{"(", "", "p(?0_0)", "X", "p q", "7"}[r.Intn(6)]
	}
	return o
}

// TestAgainstTheWords: scripts by chance tell and make what the chapter's words say; a Fork stays as it was.
func TestAgainstTheWords(t *testing.T) {
	told := map[api.OpKind]map[api.Errno]int{}
	for seed := range 120 {
		r := rand.New(rand.NewSource(int64(seed)))
		nodes, budget := 3+r.Intn(2), 2000
		if seed%6 == 0 {
			budget = r.Intn(12)
		}
		p := programOf(t, lawProgram)
		c, _ := cluster.New(p, nodes, budget)
		s := newSlow(programOf(t, lawProgram), nodes, budget)
		var fork *cluster.Cluster
		was := ""
		for i := range 160 {
			waits := len(s.waits)
			o := someOp(r, nodes, waits)
			if r.Intn(6) == 0 {
				o = wrongOp(r, nodes, waits)
			}
			if i == 0 {
				o = api.Op{Kind: api.DoSubmit, Text: goals[seed%len(goals)]}
			}
			got, want := c.Do(o), s.do(o)
			if got != want {
				t.Fatalf("seed %d, %d: %v: %v, want %v", seed, i, o, got, want)
			}
			if told[o.Kind] == nil {
				told[o.Kind] = map[api.Errno]int{}
			}
			told[o.Kind][got]++
			if i%16 == 0 && whole(c) != s.text() {
				t.Fatalf("seed %d, %d: %s\nwant\n%s", seed, i, whole(c), s.text())
			}
			switch i {
			case 70: // the fork stays, and then goes on in the other's place
				fork, was = c.Fork(), whole(c)
			case 110:
				expect(t, whole(fork), was)
				c, s = fork, again(p, nodes, budget, seed, 71)
			}
		}
		if whole(c) != s.text() {
			t.Fatalf("seed %d: %s\nwant\n%s", seed, whole(c), s.text())
		}
	}
	for kind, l := range map[api.OpKind][]api.Errno{
		0: {api.ErrForm}, 10: {api.ErrForm}, api.DoStep: {api.OK, api.ErrForm, api.ErrRange, api.ErrDown, api.ErrIdle, api.ErrFuel}, api.DoCollect: {api.OK, api.ErrForm, api.ErrRange, api.ErrDown},
		api.DoSubmit: {api.OK, api.ErrForm, api.ErrRange, api.ErrDown, api.ErrEnd, api.ErrSyntax}, api.Deliver: {api.OK, api.ErrForm, api.ErrNone, api.ErrDown}, api.Drop: {api.OK, api.ErrForm, api.ErrNone},
		api.Double: {api.OK, api.ErrForm, api.ErrNone}, api.Resend: {api.OK, api.ErrForm, api.ErrRange, api.ErrDown}, api.Crash: {api.OK, api.ErrForm, api.ErrRange, api.ErrDown}, api.Restart: {api.OK, api.ErrForm, api.ErrRange, api.ErrUp},
	} {
		for _, e := range l {
			if told[kind][e] < 2 {
				t.Errorf("kind %d, error %d: %d times alone", kind, e, told[kind][e])
			}
		}
	}
}

// again is the slow cluster behind so many of a seed's operations.
func again(p api.Program, nodes, budget, seed, steps int) *slow {
	r := rand.New(rand.NewSource(int64(seed)))
	r.Intn(2)
	if seed%6 == 0 {
		r.Intn(12)
	}
	s := newSlow(p, nodes, budget)
	for i := range steps {
		waits := len(s.waits)
		o := someOp(r, nodes, waits)
		if r.Intn(6) == 0 {
			o = wrongOp(r, nodes, waits)
		}
		if i == 0 {
			o = api.Op{Kind: api.DoSubmit, Text: goals[seed%len(goals)]}
		}
		s.do(o)
	}
	return s
}

// TestForks: of a cluster and its Fork what becomes of the one changes nothing of the other one, whichever goes on.
func TestForks(t *testing.T) {
	for seed := range 20 {
		r := rand.New(rand.NewSource(int64(seed)))
		c := clusterOf(t, lawProgram, 3, 300)
		do(t, c, "submit "+goals[seed%len(goals)])
		for range 40 {
			c.Do(someOp(r, 3, len(c.Pending())))
		}
		f, was := c.Fork(), whole(c)
		expect(t, whole(f), was)
		script := func(c *cluster.Cluster, from int64) string {
			r := rand.New(rand.NewSource(from))
			for range 60 {
				c.Do(someOp(r, 3, len(c.Pending())))
			}
			return whole(c)
		}
		first := script(c, 1)
		expect(t, whole(f), was)
		script(f, 2)
		expect(t, whole(c), first)
		g := c.Fork()
		expect(t, script(g, 3), script(c, 3)) // P20.5, and P6: what becomes of both is the same
	}
}

// TestForksSubmit: both go on behind as many goals, with room behind the list's end or not.
func TestForksSubmit(t *testing.T) {
	c := clusterOf(t, lawProgram, 1, 300)
	for n := range 9 {
		f := c.Fork()
		do(t, c, "submit w("+strconv.Itoa(n)+")")
		was := submitted(t, c)
		do(t, f, "submit w(other)")
		expect(t, submitted(t, c), was)
	}
}

// TestNodesAreForks: what is done to what Node tells changes nothing of the cluster, and the other way round.
func TestNodesAreForks(t *testing.T) {
	c := clusterOf(t, lawProgram, 3, 300)
	do(t, c, "submit stream(S)", "step 0", "step 0", "step 0", "deliver 0", "step 1", "crash 2")
	was := whole(c)
	kept := []string{durableText(c.Node(0)), durableText(c.Node(1)), durableText(c.Node(2))}
	l := []*durable.Durable{c.Node(0), c.Node(1), c.Node(2)}
	for i, d := range l {
		d.Restart()
		d.Do(api.Event{Kind: api.Step}, 0)
		d.Do(api.Event{Kind: api.Collect}, 0)
		d.Do(api.Event{Kind: api.Step}, 3)
		expect(t, whole(c), was)
		l[i] = c.Node(i)
	}
	do(t, c, "restart 2", "step 1", "step 1", "collect 1", "submit p(2)", "step/4 0")
	for i, d := range l {
		expect(t, durableText(d), kept[i])
	}
}

// TestAnswersAreTheCallers: what a cluster tells may be overwritten; what it was handed may be, too (P3).
func TestAnswersAreTheCallers(t *testing.T) {
	p := programOf(t, lawProgram)
	c, _ := cluster.New(p, 3, 300)
	for i := range p {
		clear(p[i].Head)
		for _, b := range slices.Concat(p[i].Body, p[i].Guards) {
			clear(b)
		}
		clear(p[i].Body)
		clear(p[i].Guards)
	}
	clear(p)
	do(t, c, "submit stream(S)", "submit drop(X)")
	r := rand.New(rand.NewSource(5))
	for range 60 {
		c.Do(someOp(r, 3, len(c.Pending())))
	}
	c.Do(opOf(t, "restart 0"))
	do(t, c, "submit X = f(a, Y)")
	for c.Do(opOf(t, "step 0")) == api.OK {
	}
	was := whole(c)
	told := c.Commits()
	if !slices.ContainsFunc(told, func(x api.Commit) bool { return len(x.Bound) > 0 }) || !slices.ContainsFunc(told, func(x api.Commit) bool { return len(x.Fresh) > 0 && len(x.Goals) > 0 }) {
		t.Fatal("too little has happened:", told)
	}
	for _, x := range told {
		clear(x.Goal.Term[:cap(x.Goal.Term)])
		clear(x.Fresh[:cap(x.Fresh)])
		for _, b := range x.Bound {
			clear(b.Term[:cap(b.Term)])
		}
		clear(x.Bound[:cap(x.Bound)])
		for _, g := range x.Goals {
			clear(g.Term[:cap(g.Term)])
		}
		clear(x.Goals[:cap(x.Goals)])
	}
	clear(told[:cap(told)])
	for _, g := range c.Submitted() {
		clear(g.Term[:cap(g.Term)])
	}
	l := c.Submitted()
	clear(l[:cap(l)])
	for _, d := range c.Pending() {
		clear(d.Bytes[:cap(d.Bytes)])
	}
	pending := c.Pending()
	clear(pending[:cap(pending)])
	for _, d := range c.Node(0).Link().Outbox() {
		clear(d.Bytes[:cap(d.Bytes)])
	}
	for n := range 4 {
		if x, e := c.Observe(0, name(0, n)); e == api.OK {
			clear(x[:cap(x)])
		}
	}
	expect(t, whole(c), was)
	ops := []api.Op{opOf(t, "step 0"), opOf(t, "resend 0"), {}, {}}
	before := slices.Clone(ops)
	c.Run(ops[:2]...)
	if !slices.Equal(ops, before) {
		t.Error("what was handed in has changed")
	}
}

// TestDeliveredBytesAreTheNetworks: a datagram that waits doubled is not changed by what becomes of the other one.
func TestDeliveredBytesAreTheNetworks(t *testing.T) {
	c := clusterOf(t, lawProgram, 3, 300)
	do(t, c, "submit stream(S)", "step 0", "step 0", "double 0", "double 0")
	first := c.Pending()[0]
	do(t, c, "deliver 0", "step 1", "step 1")
	for _, d := range c.Pending()[:2] {
		if !bytes.Equal(d.Bytes, first.Bytes) || d.Seq != first.Seq {
			t.Error(d, first)
		}
	}
}
