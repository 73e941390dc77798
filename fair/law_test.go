package fair_test

import (
	"math/rand"
	"slices"
	"testing"

	"purlin/api"
	"purlin/cluster"
	"purlin/fair"
	"purlin/trace"
	"purlin/wire"
)

// The slow versions go by the chapter's words, and ask a cluster that was restarted what a node that is down will have.

func nodesOf(c *cluster.Cluster) (n int) {
	for c.Node(n) != nil {
		n++
	}
	return n
}

// risen is a cluster like this one, all nodes up.
func risen(c *cluster.Cluster) *cluster.Cluster {
	c = c.Fork()
	for i := range nodesOf(c) {
		c.Do(api.Op{Kind: api.Restart, Node: i})
	}
	return c
}

func slowRound(c *cluster.Cluster) (l []api.Op) {
	up := risen(c)
	for i := range nodesOf(c) {
		if !c.Up(i) {
			l = append(l, api.Op{Kind: api.Restart, Node: i})
		}
	}
	deliveries := len(c.Pending())
	for i := range nodesOf(c) {
		if n := up.Node(i).Node(); len(n.Queue()) != 0 && n.Left() != 0 {
			l = append(l, api.Op{Kind: api.DoStep, Node: i})
		}
		outbox, _ := up.Node(i).Resend()
		if len(outbox) != 0 {
			l = append(l, api.Op{Kind: api.Resend, Node: i})
		}
		deliveries += len(outbox)
	}
	for range deliveries {
		l = append(l, api.Op{Kind: api.Deliver})
	}
	return l
}

func slowQuiet(c *cluster.Cluster) bool {
	up := risen(c)
	for i := range nodesOf(c) {
		if n := up.Node(i).Node(); len(n.Queue()) != 0 && n.Left() != 0 {
			return false
		}
		outbox, _ := up.Node(i).Resend()
		for _, d := range outbox {
			m, _, _ := wire.Decode(d.Bytes)
			taken := d.Seq < up.Node(d.To).Link().Next(i)
			if (m.Tag == api.Read || m.Tag == api.Value || m.Tag == api.Ship) && !taken {
				return false
			}
		}
	}
	return true
}

func slowTruth(c *cluster.Cluster) api.Verdict {
	for _, x := range c.Commits() {
		if x.Fails {
			return api.Failed
		}
	}
	if !slowQuiet(c) {
		return api.Running
	}
	queued, waiting := 0, 0
	for i := range nodesOf(c) {
		n := risen(c).Node(i).Node()
		queued, waiting = queued+len(n.Queue()), waiting+len(n.Waiting())
	}
	switch {
	case queued > 0:
		return api.OutOfFuel
	case waiting > 0:
		return api.Suspended
	}
	return api.Terminated
}

// slowGo does the operations of a round by Run, as many at once as that does.
func slowGo(c *cluster.Cluster, rounds int) (api.Verdict, int) {
	for n := range rounds {
		if c.Verdict() != api.Running {
			return c.Verdict(), n
		}
		for l := range slices.Chunk(slowRound(c), api.MaxOps) {
			c.Run(l...)
		}
	}
	return c.Verdict(), rounds
}

// lawProgram's goals end, each, wait, or fail; those of endless go on for ever. (What an equation leads to may be known at one owner alone, and the equation goes to and fro between both for ever, as chapter 19 has it: none of these comes to that.)
const lawProgram = example + `
	stream(S) :- gen(4, L) @ 1, sum(L, 0, S) @ 2.
	gen(N, L) :- N =< 0 | L = nil. gen(N, L) :- N > 0 | L = cons(N, T), M := N - 1, gen(M, T).
	sum(nil, A, S) :- S := A. sum(cons(X, T), A, S) :- B := A + X, sum(T, B, S).
	spread(N, P, R) :- N =< 0 | R = leaf.
	spread(N, P, R) :- N > 0 | R = node(A, B), M := N - 1, Q := mod(P + 1, 3), spread(M, Q, A) @ Q, spread(M, P, B) @ P.
	bad(X) :- w(b) @ 1, X = a @ 2. hang(X) :- w(X) @ 1, w(Y) @ 2. turn(X) :- turn(X) @ 1, r(3) @ 2.
	both(X) :- wait(X, Y) @ 1, wait(Y, X) @ 2. wait(X, Y) :- integer(X) | Y := X + 1.
	some(X) :- wait(X, Y) @ 1, wait(Y, Z) @ 2, wait(Z, U), X = 1 @ 2.
	meet(X, Y) :- left(X) @ 1, right(Y) @ 2, X = Y. left(X) :- X = f(A, B), B = A. right(Y) :- Y = f(C, D).
	ring(X, Y, Z) :- X = Y @ 1, Y = Z @ 2, Z = X, Z = g(W) @ 1, new(W) @ 2, X = g(U) @ 2. new(W) :- W = h(V), V = W.
	tell(X) :- X = f(Y) @ 1, put(Y) @ 2, two(X) @ 1. put(X) :- X = 3. two(f(X)) :- r(X).`

var (
	ending  = []string{"p(2)", "p(0)", "p(X)", "stream(S)", "spread(3, 0, R)", "bad(X)", "hang(X)", "both(X)", "some(X)", "tell(X)", "meet(X, Y)", "ring(X, Y, Z)", "X = f(X)", "X = f(Y) @ 1", "r(X) @ X", "X = Y", "true @ 2", "nobody", "r(3) @ 1"}
	endless = []string{"s(1)", "turn(1)", "s(1) @ 1"}
)

// someOp is an operation by chance, of a cluster of so many nodes with so many datagrams.
func someOp(r *rand.Rand, nodes, waits int) (o api.Op) {
	o.Node, o.K = r.Intn(nodes), r.Intn(max(1, waits))
	switch n := r.Intn(100); {
	case n < 40:
		o.Kind = api.DoStep
	case n < 44:
		o.Kind = api.DoCollect
	case n < 46:
		o.Kind, o.Node, o.Text = api.DoSubmit, 0, ending[r.Intn(len(ending))]
	case n < 76:
		o.Kind = api.Deliver
	case n < 80:
		o.Kind = api.Drop
	case n < 83:
		o.Kind = api.Double
	case n < 88:
		o.Kind = api.Resend
	case n < 91:
		o.Kind = api.Crash
	default:
		o.Kind = api.Restart
	}
	if o.Kind <= api.Deliver && r.Intn(8) == 0 {
		o.Cut = 1 + r.Intn(40)
	}
	return o
}

// agrees holds what is told of a cluster against the words; and that nothing changes by it.
func agrees(t *testing.T, c *cluster.Cluster) {
	t.Helper()
	if got, want := fair.Round(c), slowRound(c); !slices.Equal(got, want) {
		t.Fatalf("round %v; want %v", got, want)
	}
	if got, want := fair.Quiet(c), slowQuiet(c); got != want {
		t.Fatalf("quiet %v", got)
	}
	if got, want := fair.Truth(c), slowTruth(c); got != want {
		t.Fatalf("truth %d; want %d", got, want)
	}
}

// verdictHolds is P23.3 (E6).
func verdictHolds(t *testing.T, c *cluster.Cluster, p api.Program) {
	t.Helper()
	v, truth := c.Verdict(), fair.Truth(c)
	if v != api.Running && v != truth {
		t.Fatalf("verdict %d, truth %d", v, truth)
	}
	m, e := trace.After(p, nodesOf(c), c.Submitted(), c.Commits()...)
	if e != api.OK {
		t.Fatal(e)
	}
	switch goals, open := len(m.Goals()), len(m.Open()); {
	case truth == api.Failed != m.Failed():
		t.Fatalf("truth %d, the model: %v", truth, m.Failed())
	case truth == api.Terminated && goals > 0, truth == api.Suspended && (goals == 0 || open > 0), truth == api.OutOfFuel && goals == 0:
		t.Fatalf("truth %d, %d goals, of which %d are open", truth, goals, open)
	}
}

// quietEnds is P23.4 (E7).
func quietEnds(t *testing.T, c *cluster.Cluster) {
	t.Helper()
	c = c.Fork()
	truth, commits := fair.Truth(c), len(c.Commits())
	for range 40 {
		for _, o := range fair.Round(c) {
			if o.Kind == api.DoStep {
				t.Fatal("a step, though nothing is left to be done")
			}
			c.Do(o)
		}
		if v := c.Verdict(); v != api.Running {
			if v != truth || len(c.Commits()) != commits {
				t.Fatalf("verdict %d, truth %d", v, truth)
			}
			return
		}
	}
	t.Fatalf("no verdict of what is %d", truth)
}

// TestWorlds: scripts by chance, with faults, and then fair tails: P23.1 to P23.4, E6 and E7.
func TestWorlds(t *testing.T) {
	p := programOf(t, lawProgram)
	var quiet, down, steps int
	truths, verdicts := map[api.Verdict]int{}, map[api.Verdict]int{}
	for seed := range 240 {
		r := rand.New(rand.NewSource(int64(seed)))
		nodes, budget := 3+r.Intn(2), 1000
		goal := ending[seed%len(ending)]
		switch r.Intn(5) {
		case 0:
			budget = r.Intn(20)
		case 1:
			goal, budget = endless[seed%len(endless)], 60
		}
		c, _ := cluster.New(p, nodes, budget)
		c.Do(api.Op{Kind: api.DoSubmit, Text: goal})
		for i := range r.Intn(250) {
			c.Do(someOp(r, nodes, len(c.Pending())))
			if i%9 == 0 {
				verdictHolds(t, c, p)
				truths[fair.Truth(c)]++
			}
			if i%40 != 0 {
				continue
			}
			agrees(t, c)
			if slices.ContainsFunc(fair.Round(c), func(o api.Op) bool { return o.Kind == api.Restart }) {
				down++
			}
			if fair.Quiet(c) {
				quiet++
				quietEnds(t, c)
			}
		}
		slow := c.Fork()
		for _, rounds := range []int{r.Intn(9), 600} {
			v, n, e := fair.Go(c, rounds)
			v2, n2 := slowGo(slow, rounds)
			if v != v2 || n != n2 || e != api.OK || whole(c) != whole(slow) {
				t.Fatalf("seed %d: %d, %d; want %d, %d", seed, v, n, v2, n2)
			}
			verdictHolds(t, c, p)
			steps += n
		}
		if c.Verdict() == api.Running {
			t.Fatalf("seed %d: %s has no end", seed, goal)
		}
		verdicts[c.Verdict()]++
	}
	if quiet < 100 || down < 100 || steps < 1000 || len(truths) < 5 || len(verdicts) < 4 {
		t.Error("too little has happened:", quiet, down, steps, truths, verdicts)
	}
}
