package cluster_test

import (
	"fmt"
	"slices"
	"strconv"
	"testing"

	"purlin/api"
	"purlin/cluster"
	"purlin/wire"
)

// sends is a program whose goal many(X) sends three goals to node 1.
const sends = example + " many(X) :- w(X) @ 1, w(a) @ 1, w(b) @ 1. eq(X) :- X = a @ 1. keep(X) :- X = f(Y), get(Y) @ 1. get(Y) :- Y = b."

func TestDeliver(t *testing.T) {
	c := clusterOf(t, sends, 2, 100)
	do(t, c, "submit many(b)", "step 0", "step 0", "step 0", "step 0")
	expect(t, waiting(c), "0>1 data 0, 0>1 data 1, 0>1 data 2")
	do(t, c, "deliver 1") // too early: nothing was taken, so that there is no answer
	expect(t, waiting(c), "0>1 data 0, 0>1 data 2")
	do(t, c, "deliver 0")
	expect(t, waiting(c), "0>1 data 2, 1>0 ack 0")
	do(t, c, "deliver 0") // too early again: what came is acknowledged
	expect(t, waiting(c), "1>0 ack 0, 1>0 ack 0")
	do(t, c, "deliver 1", "resend 0")
	expect(t, waiting(c), "1>0 ack 0, 0>1 data 1, 0>1 data 2")
	do(t, c, "double 1", "deliver 1", "deliver 1", "deliver 1")
	expect(t, waiting(c), "1>0 ack 0, 1>0 ack 1, 1>0 ack 2, 1>0 ack 2")
	do(t, c, "deliver 3", "resend 0", "resend 1")
	expect(t, waiting(c), "1>0 ack 0, 1>0 ack 1, 1>0 ack 2")
	if l := c.Node(1).Node().Queue(); len(l) != 3 {
		t.Error(l)
	}
}

func TestDropAndDouble(t *testing.T) {
	c := clusterOf(t, sends, 2, 100)
	do(t, c, "submit many(b)", "step 0", "step 0", "step 0", "step 0", "double 1", "drop 0")
	expect(t, waiting(c), "0>1 data 1, 0>1 data 2, 0>1 data 1")
	do(t, c, "drop 1", "double 0", "drop 0", "resend 0")
	expect(t, waiting(c), "0>1 data 1, 0>1 data 1, 0>1 data 0, 0>1 data 1, 0>1 data 2")
	do(t, c, "resend 1")
	expect(t, waiting(c), "0>1 data 1, 0>1 data 1, 0>1 data 0, 0>1 data 1, 0>1 data 2")
}

// TestDeliverToOneThatIsDown: the datagram is lost, and nothing else has happened.
func TestDeliverToOneThatIsDown(t *testing.T) {
	for _, cut := range []int{0, 1, 100} {
		c := clusterOf(t, sends, 2, 100)
		do(t, c, "submit many(b)", "step 0", "step 0", "step 0", "step 0", "crash 1")
		without := c.Fork()
		do(t, without, "drop 1")
		if e := c.Do(api.Op{Kind: api.Deliver, K: 1, Cut: cut}); e != api.ErrDown {
			t.Error(e)
		}
		expect(t, whole(c), whole(without))
		expect(t, waiting(c), "0>1 data 0, 0>1 data 2")
	}
}

// exporting is a program whose goal early(X) exports as many variables of node 0 as may be, X with the value g(V) among them, but not V.
const exporting = `get(g(V)). early(X) :- get(X) @ 1, put(7), one(A, B, C, D, E, F, G) @ 1, X = g(V).
	put(N) :- N =< 0 | true. put(N) :- N > 0 | fill(A, B, C, D, E, F, G, H) @ 1, M := N - 1, put(M).
	fill(A, B, C, D, E, F, G, H). one(A, B, C, D, E, F, G).`

// TestDeliverWithAnError: the event's error is told; the datagram has gone all the same, unanswered, and nothing else has happened.
func TestDeliverWithAnError(t *testing.T) {
	c := clusterOf(t, exporting, 2, 1000)
	do(t, c, "submit early(X)")
	for c.Do(opOf(t, "step 0")) == api.OK {
	}
	if n := len(c.Node(0).Node().Exports()); n != api.MaxExports {
		t.Fatal("exported:", n)
	}
	do(t, c, "deliver 0", "step 1") // node 1 asks for X: V would come with its value
	asks := func() int {
		return slices.IndexFunc(c.Pending(), func(d api.Datagram) bool { return d.From == 1 && !d.Ack && d.Seq == 0 })
	}
	for _, cut := range []int{0, 1, 1000} {
		without := c.Fork()
		do(t, without, fmt.Sprint("drop ", asks()))
		if e := c.Do(api.Op{Kind: api.Deliver, K: asks(), Cut: cut}); e != api.ErrExports {
			t.Fatal(e)
		}
		expect(t, whole(c), whole(without))
		do(t, c, "resend 1")
	}
}

// TestRefusedReadStandsAhead: messages are taken in order, so that the Releases which would make room wait behind a Read that has none, whatever comes again.
func TestRefusedReadStandsAhead(t *testing.T) {
	c := clusterOf(t, exporting, 2, 1000)
	do(t, c, "submit early(X)")
	for c.Do(opOf(t, "step 0")) == api.OK {
	}
	do(t, c, "deliver 0", "step 1")
	told := map[api.Errno]int{}
	for range 40 {
		do(t, c, "resend 0", "resend 1", "collect 0", "collect 1")
		for n := len(c.Pending()); n > 0; n-- {
			told[c.Do(opOf(t, "deliver 0"))]++
		}
		c.Do(opOf(t, "step 1"))
	}
	if len(told) != 2 || told[api.ErrExports] < 40 || c.Node(0).Link().Next(1) != 0 {
		t.Error(told, c.Node(0).Link().Next(1))
	}
	var tags []api.Tag
	for _, d := range c.Node(1).Link().Outbox() {
		m, _, _ := wire.Decode(d.Bytes)
		tags = append(tags, m.Tag)
	}
	if len(tags) == 0 || tags[0] != api.Read || !slices.Contains(tags, api.Release) || c.Verdict() != api.Running {
		t.Error(tags, c.Verdict())
	}
}

func TestCrashAndRestart(t *testing.T) {
	c := clusterOf(t, sends, 2, 100)
	do(t, c, "submit p(2)", "step 0", "step 0", "deliver 0", "step 1", "step 1")
	was := []string{nodeText(c.Node(0)), nodeText(c.Node(1))}
	do(t, c, "deliver 0") // the acknowledgement: behind a crash node 0 has it not
	if len(c.Node(0).Link().Outbox()) > 0 {
		t.Error(c.Node(0).Link().Outbox())
	}
	for i := range 2 {
		k := strconv.Itoa(i)
		do(t, c, "crash "+k)
		if c.Up(i) || !c.Up(1-i) || c.Node(i).Up() || nodeText(c.Node(i)) != was[i] {
			t.Error("down:", whole(c))
		}
		refuses(t, c, api.ErrDown, opOf(t, "crash "+k), opOf(t, "resend "+k), opOf(t, "step "+k), opOf(t, "collect "+k))
		do(t, c, "restart "+k)
		if !c.Up(i) || !c.Node(i).Up() || nodeText(c.Node(i)) != was[i] {
			t.Error("up:", whole(c))
		}
	}
	if len(c.Node(0).Link().Outbox()) != 1 {
		t.Error(c.Node(0).Link().Outbox())
	}
	expect(t, waiting(c), "")
	do(t, c, "resend 0", "deliver 0", "deliver 0", "step 1", "step 1", "step 1", "deliver 0")
	expect(t, fmt.Sprint(c.Verdict()), fmt.Sprint(api.Terminated))
}

// cutAt does an operation at each cut of its record and beyond it: the node is down, and the rest as without the operation, or with it, as the record is complete; nothing is sent.
func cutAt(t *testing.T, c *cluster.Cluster, operation string, node int) {
	t.Helper()
	o := opOf(t, operation)
	ahead, behind := c.Fork(), c.Fork()
	if o.Kind == api.Deliver { // it is out of the network in any case
		do(t, ahead, "drop "+strconv.Itoa(o.K))
	}
	do(t, behind, operation)
	record := len(behind.Node(node).Journal().Bytes()) - len(c.Node(node).Journal().Bytes())
	for _, cut := range append(seq(1, record+4), 1<<20, 1<<62) {
		o.Cut = cut
		f := c.Fork()
		if e := f.Do(o); e != api.OK {
			t.Fatalf("%s, cut %d: %v", operation, cut, e)
		}
		want, tail := ahead, min(cut-1, record)
		if cut > record {
			want, tail = behind, 0
		}
		isCut(t, f, want, ahead, node)
		journal := len(want.Node(node).Journal().Bytes())
		if n := len(f.Node(node).Journal().Bytes()); n != journal+tail {
			t.Fatalf("%s, cut %d: %d bytes, want %d", operation, cut, n, journal+tail)
		}
		do(t, f, "restart "+strconv.Itoa(node))
		if nodeText(f.Node(node)) != nodeText(want.Node(node)) || !f.Up(node) || len(f.Node(node).Journal().Bytes()) != journal {
			t.Fatalf("%s, cut %d: %s\nwant %s", operation, cut, nodeText(f.Node(node)), nodeText(want.Node(node)))
		}
	}
}

func isCut(t *testing.T, f, want, ahead *cluster.Cluster, node int) {
	t.Helper()
	if f.Up(node) || f.Node(node).Up() {
		t.Fatal("it is up")
	}
	got := fmt.Sprint(nodeText(f.Node(node)), f.Commits(), f.Submitted(), f.Node(node).Events())
	if w := fmt.Sprint(nodeText(want.Node(node)), want.Commits(), want.Submitted(), want.Node(node).Events()); got != w {
		t.Fatalf("%s\nwant %s", got, w)
	}
	if fmt.Sprint(f.Pending()) != fmt.Sprint(ahead.Pending()) {
		t.Fatalf("%s; want %s", waiting(f), waiting(ahead))
	}
	for i := 0; f.Node(i) != nil; i++ {
		if i != node && durableText(f.Node(i)) != durableText(ahead.Node(i)) {
			t.Fatalf("node %d has changed", i)
		}
	}
}

func seq(from, to int) (l []int) {
	for n := from; n <= to; n++ {
		l = append(l, n)
	}
	return l
}

func TestCuts(t *testing.T) {
	c := clusterOf(t, sends, 2, 100)
	cutAt(t, c, "submit p(2)", 0)
	cutAt(t, c, "submit w(X)", 0)
	cutAt(t, c, "collect 1", 1)
	do(t, c, "submit eq(X)")
	cutAt(t, c, "step 0", 0) // by a clause
	do(t, c, "step 0")
	cutAt(t, c, "step 0", 0) // a goal is sent
	do(t, c, "step 0", "submit w(V)")
	cutAt(t, c, "deliver 0", 1)
	cutAt(t, c, "step 0", 0) // it waits
	cutAt(t, c, "collect 0", 0)
	cutAt(t, c, "submit many(Z, Y)", 0)
	do(t, c, "deliver 0", "step 1") // the equation goes to X's owner
	expect(t, waiting(c), "1>0 ack 0, 1>0 data 0, 1>0 data 1")
	cutAt(t, c, "deliver 1", 0)
	cutAt(t, c, "collect 1", 1)
}

// TestCutWithoutARecord: an acknowledgement, or what was taken already, takes the node down by a cut, too; what no record says is lost.
func TestCutWithoutARecord(t *testing.T) {
	c := clusterOf(t, sends, 2, 100)
	do(t, c, "submit p(2)", "step 0", "step 0", "double 0", "deliver 0")
	expect(t, waiting(c), "0>1 data 0, 1>0 ack 0")
	for _, cut := range []int{1, 2, 1000} {
		f := c.Fork()
		if e := f.Do(api.Op{Kind: api.Deliver, Cut: cut}); e != api.OK || f.Up(1) || !f.Up(0) {
			t.Error(e, f.Up(0), f.Up(1))
		}
		expect(t, waiting(f), "1>0 ack 0")
		if e := f.Do(api.Op{Kind: api.Deliver, Cut: cut}); e != api.OK || f.Up(0) {
			t.Error(e, f.Up(0))
		}
		do(t, f, "restart 0", "restart 1", "resend 0")
		expect(t, waiting(f), "0>1 data 0")
		for i := range 2 {
			expect(t, nodeText(f.Node(i)), nodeText(c.Node(i)))
		}
	}
}

// TestCutTail: what is written behind a torn record stands behind its end, as the tail is cut off first.
func TestCutTail(t *testing.T) {
	c := clusterOf(t, sends, 2, 100)
	do(t, c, "submit p(2)", "step/4 0", "restart 0", "step/100 0", "restart 0", "step/2 0", "restart 0", "step 0")
	if l := commits(t, c); len(l) != 2 {
		t.Error(l)
	}
	expect(t, waiting(c), "0>1 data 0")
	expect(t, fmt.Sprint(len(c.Node(0).Events())), "3")
}

func TestVerdict(t *testing.T) {
	c := clusterOf(t, sends, 2, 100)
	is := func(want api.Verdict) {
		t.Helper()
		expect(t, fmt.Sprint(c.Verdict()), fmt.Sprint(want))
	}
	is(api.Terminated) // no unit was given out, and none is missing
	do(t, c, "submit w(X)")
	is(api.Running)
	do(t, c, "step 0")
	is(api.Suspended)
	do(t, c, "crash 0")
	is(api.Running)
	do(t, c, "restart 0")
	is(api.Suspended)
	do(t, c, "crash 1")
	is(api.Suspended)
	do(t, c, "submit p(0)", "step 0")
	is(api.Failed)
	do(t, c, "submit/1 p(2)")
	is(api.Running)
}

func TestObserve(t *testing.T) {
	c := clusterOf(t, sends, 2, 100)
	x, y := name(0, 0), name(0, 1)
	do(t, c, "submit keep(X)", "step 0", "step 0")
	expect(t, observed(t, c, 0, x), "f(?0_1)")
	expect(t, observed(t, c, 0, y), "error 4")
	expect(t, observed(t, c, 1, x), "error 4")
	for _, v := range []api.Name{name(0, 2), name(1, 0), name(-1, 0), name(3, 0), name(0, -1), name(1<<62, 1<<62)} {
		expect(t, observed(t, c, 0, v), "error 4")
	}
	for _, i := range []int{-1, 2, api.MaxNodes, 1 << 62, -1 << 63} {
		expect(t, observed(t, c, i, x), "error 2")
	}
	do(t, c, "crash 0")
	expect(t, observed(t, c, 0, x), "error 200")
	expect(t, observed(t, c, 0, y), "error 200")
	expect(t, observed(t, c, 2, x), "error 2")
	do(t, c, "restart 0")
	expect(t, observed(t, c, 0, x), "f(?0_1)")
	do(t, c, "step 0", "deliver 0", "step 1", "step 1") // get(Y): Y = b goes to node 0, its owner
	expect(t, observed(t, c, 0, x), "f(?0_1)")
	do(t, c, "deliver 1", "step 0")
	expect(t, observed(t, c, 0, x), "f(b)")
	expect(t, observed(t, c, 0, y), "b")
	do(t, c, "collect 0", "crash 0", "restart 0")
	expect(t, observed(t, c, 0, x), "f(b)")
	do(t, c, "submit V = f(V)", "step 0", "submit W = f(W, W)", "step 0")
	for n := 2; n < 4; n++ {
		expect(t, observed(t, c, 0, name(0, n)), "error 5")
	}
}

// TestSubmittedBehindCuts: a Submit whose record was complete has happened.
func TestSubmittedBehindCuts(t *testing.T) {
	c := clusterOf(t, sends, 2, 100)
	do(t, c, "submit/3 p(1)", "restart 0", "submit/999 w(X, Y, X)", "restart 0", "submit q(Z)", "submit/1 true", "restart 0", "submit true")
	expect(t, submitted(t, c), "0.0 w(?0_0, ?0_1, ?0_0), 0.1 q(?0_2), 0.2 true")
	do(t, c, "crash 0")
	expect(t, submitted(t, c), "0.0 w(?0_0, ?0_1, ?0_0), 0.1 q(?0_2), 0.2 true")
}

// TestSubmitWithNothingLeft: goals begin without a reduction left, too.
func TestSubmitWithNothingLeft(t *testing.T) {
	c := clusterOf(t, sends, 1, 0)
	do(t, c, "submit p(1)", "submit w(X)")
	expect(t, submitted(t, c), "0.0 p(1), 0.1 w(?0_0)")
	expect(t, fmt.Sprint(c.Verdict()), fmt.Sprint(api.OutOfFuel))
}
