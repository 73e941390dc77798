package node_test

import (
	"maps"
	"math/rand"
	"slices"
	"testing"

	"purlin/api"
	"purlin/credit"
	"purlin/model"
	"purlin/node"
	"purlin/term"
	"purlin/wire"
)

const worldProgram = example + `
	stream(S) :- gen(5, L) @ 1, sum(L, 0, S) @ 2.
	gen(N, L) :- N =< 0 | L = nil. gen(N, L) :- N > 0 | L = cons(N, T), M := N - 1, gen(M, T).
	sum(nil, A, S) :- S := A. sum(cons(X, T), A, S) :- B := A + X, sum(T, B, S).
	spread(N, P, R) :- N =< 0 | R = leaf.
	spread(N, P, R) :- N > 0 | R = node(A, B), M := N - 1, Q := mod(P + 1, 3), spread(M, Q, A) @ Q, spread(M, P, B) @ P.
	meet(X, Y) :- left(X) @ 1, right(Y) @ 2, X = Y. left(X) :- X = f(A, B), B = A. right(Y) :- Y = f(C, D).
	ring(X, Y, Z) :- X = Y @ 1, Y = Z @ 2, Z = X, Z = g(W) @ 1, new(W) @ 2, X = g(U) @ 2. new(W) :- W = h(V), V = W.
	bad(X) :- X = a @ 1, X = b @ 2.
	hang(X) :- wait(X) @ 1, wait(X) @ 2. wait(a).
	turn(X) :- turn(X) @ 1, z @ 2. z.
	drop(X) :- X = f(A, B, C), copy(A, B) @ 1, copy(B, C) @ 2, A = 1. copy(X, Y) :- integer(X) | Y = X.`

// world is nodes with ways between them that keep the order, and the abstract machine of their commits.
type world struct {
	t     *testing.T
	nodes []*node.Node
	ways  map[[2]int][]api.Message
	m     *model.Model
}

func newWorld(t *testing.T, nodes, budget int) *world {
	t.Helper()
	m, e := model.New(programOf(t, worldProgram), nodes)
	if e != api.OK {
		t.Fatal(e)
	}
	w := &world{t: t, ways: map[[2]int][]api.Message{}, m: m}
	for k := range nodes {
		w.nodes = append(w.nodes, nodeOf(t, worldProgram, k, nodes, budget))
	}
	return w
}

// do lets a node do an event: its commits are held against the machine, its messages are under way.
func (w *world) do(k int, e api.Event) api.Errno {
	w.t.Helper()
	knew := w.nodes[k].Heap()
	d := w.nodes[k].Do(e)
	for _, c := range d.Commit {
		if e := w.m.Take(c); e != api.OK {
			w.t.Fatalf("%s is no reduction: %v", commitText(c), e)
		}
		for _, b := range c.Bound {
			if b.Var.Node != k {
				w.t.Fatalf("node %d binds %v", k, b)
			}
		}
	}
	for _, o := range d.Sent {
		m, e, _ := wire.Decode(bytesOf(w.t, o.Message))
		if e != api.OK {
			w.t.Fatal(o, e)
		}
		w.ways[[2]int{k, o.To}] = append(w.ways[[2]int{k, o.To}], m)
	}
	if e.Kind != api.Collect { // P19.7
		for _, b := range knew.Bindings() {
			if u, ok := w.nodes[k].Heap().Value(b.Var); !ok || !term.Equal(u, b.Term) {
				w.t.Fatalf("%v had the value %v, has %v", b.Var, b.Term, u)
			}
		}
	}
	return d.Errno
}

func (w *world) submit(goal string) {
	w.t.Helper()
	if e := w.do(0, eventOf(w.t, "submit "+goal)); e != api.OK {
		w.t.Fatal(goal, e)
	}
	l := w.nodes[0].Queue()
	if e := w.m.Submit(l[len(l)-1]); e != api.OK {
		w.t.Fatal(goal, e)
	}
}

func (w *world) deliver(on [2]int) api.Errno {
	w.t.Helper()
	m := w.ways[on][0]
	e := w.do(on[1], api.Event{Kind: api.Receive, From: on[0], Bytes: bytesOf(w.t, m)})
	if e == api.OK {
		if w.ways[on] = w.ways[on][1:]; len(w.ways[on]) == 0 {
			delete(w.ways, on)
		}
	} else if e != api.ErrExports {
		w.t.Fatalf("%v: %s: %v", on, messageText(m), e)
	}
	return e
}

// busy are the ways with messages, in one order.
func (w *world) busy() [][2]int {
	return slices.SortedFunc(maps.Keys(w.ways), func(a, b [2]int) int { return (a[0]-b[0])*10 + a[1] - b[1] })
}

// creditHolds is P19.8, and P19.6: what was given out is there, and goals that can go have some.
func (w *world) creditHolds() {
	w.t.Helper()
	collected, units := w.nodes[0].Collected()
	all := []api.Amount{collected}
	for k, n := range w.nodes {
		all = append(all, n.Credit())
		if len(n.Queue()) > 0 && n.Left() > 0 && credit.IsZero(n.Credit()) {
			w.t.Fatalf("node %d has goals without credit", k)
		}
	}
	for _, row := range w.ways {
		for _, m := range row {
			all = append(all, m.Credit)
		}
	}
	if sum, e := credit.Sum(all...); e != api.OK || credit.Compare(sum, credit.Units(units)) != 0 {
		w.t.Fatalf("%s of %d units", credit.Print(sum), units)
	}
}

// refsHold is E5.
func (w *world) refsHold() {
	w.t.Helper()
	type holding struct {
		v api.Name
		k int
	}
	counted := map[holding]int{} // what the owner counts, and will, less what the holder has, and will
	for k, n := range w.nodes {
		for _, c := range n.Exports() {
			counted[holding{c.Var, c.Node}] += c.Times
		}
		for _, c := range n.Imports() {
			counted[holding{c.Var, k}] -= c.Times
		}
	}
	for on, row := range w.ways {
		for _, m := range row {
			switch m.Tag {
			case api.Add:
				counted[holding{m.Var, m.Count}]++
			case api.Release:
				counted[holding{m.Var, on[0]}] -= m.Count
			}
			for _, v := range wire.Carries(m) {
				if v.Node != on[1] {
					counted[holding{v, on[1]}]--
				}
			}
		}
	}
	for h, n := range counted {
		if n != 0 {
			w.t.Fatalf("%v at node %d: %d more counted than held", h.v, h.k, n)
		}
	}
}

// valuesHold is E2: what a node knows is what the machine says; and E3: what an owner's roots have they have.
func (w *world) valuesHold() {
	w.t.Helper()
	for k, n := range w.nodes {
		for _, b := range n.Heap().Bindings() {
			if u, ok := w.m.Heap().Value(b.Var); !ok || !term.Equal(u, b.Term) {
				w.t.Fatalf("node %d knows %s; it is %v", k, bindingText(b), u)
			}
		}
		for _, v := range n.Roots() {
			_, has := n.Heap().Value(v)
			if _, want := w.m.Heap().Value(v); has != want {
				w.t.Fatalf("root %v: %v", v, has)
			}
		}
	}
}

// truth is the verdict from above.
func (w *world) truth() api.Verdict {
	spent, waits := false, false
	for _, n := range w.nodes {
		if len(n.Queue()) > 0 && n.Left() > 0 {
			return api.Running
		}
		spent, waits = spent || len(n.Queue()) > 0, waits || len(n.Waiting()) > 0
	}
	for _, row := range w.ways {
		for _, m := range row {
			if m.Tag == api.Read || m.Tag == api.Value || m.Tag == api.Ship {
				return api.Running
			}
		}
	}
	switch {
	case spent:
		return api.OutOfFuel
	case waits:
		return api.Suspended
	}
	return api.Terminated
}

// verdictHolds is E6.
func (w *world) verdictHolds() {
	w.t.Helper()
	got := w.nodes[0].Verdict()
	ok := true
	switch got {
	case api.Failed:
		ok = w.m.Failed()
	case api.OutOfFuel:
		ok = w.truth() == got
	case api.Terminated:
		ok = w.truth() == got && len(w.m.Goals()) == 0
	case api.Suspended:
		ok = w.truth() == got && len(w.m.Goals()) > 0 && len(w.m.Open()) == 0
	}
	if !ok {
		w.t.Fatalf("verdict %d, truth %d, goals %v", got, w.truth(), w.m.Goals())
	}
}

func (w *world) holds() {
	w.t.Helper()
	w.creditHolds()
	w.refsHold()
	w.valuesHold()
	w.verdictHolds()
}

// act does something by chance; false: there was nothing to do. A node whose exports are too many waits for what makes room.
func (w *world) act(r *rand.Rand, collects int) bool {
	w.t.Helper()
	if r.Intn(100) < collects {
		w.do(r.Intn(len(w.nodes)), api.Event{Kind: api.Collect})
		return true
	}
	first := r.Intn(2 * len(w.nodes))
	for i := range 2 * len(w.nodes) {
		k := (first + i) % (2 * len(w.nodes))
		if l := w.busy(); k%2 == 0 && len(l) > 0 && w.deliver(l[r.Intn(len(l))]) == api.OK {
			return true
		}
		if w.do(k/2, api.Event{Kind: api.Step}) == api.OK {
			return true
		}
	}
	return len(w.ways) > 0
}

// TestWorlds: E1 to E6 of nodes over ways that keep the order, in runs by chance.
func TestWorlds(t *testing.T) {
	goals := []string{"p(2)", "p(0)", "stream(S)", "spread(3, 0, R)", "meet(X, Y)", "ring(X, Y, Z)", "bad(X)", "hang(X)", "turn(1)", "drop(X)", "X = f(X)"}
	count := map[api.Verdict]int{}
	for seed := range 330 {
		r := rand.New(rand.NewSource(int64(seed)))
		goal := goals[seed%len(goals)]
		nodes, budget, collects := 3+r.Intn(2), 300, []int{0, 0, 5, 40}[r.Intn(4)]
		if goal == "turn(1)" || r.Intn(6) == 0 {
			budget = 1 + r.Intn(12)
		}
		w := newWorld(t, nodes, budget)
		w.submit(goal)
		if r.Intn(3) == 0 {
			w.submit(goals[r.Intn(len(goals)-3)])
		}
		for i := 0; w.act(r, collects) && i < 3000; i++ {
			if i%7 == 0 || i < 40 {
				w.holds()
			}
		}
		w.rest(r)
		w.holds()
		got := w.nodes[0].Verdict()
		if want := w.truth(); got != want && got != api.Failed || w.m.Failed() != (got == api.Failed) {
			t.Fatalf("%s: verdict %d, truth %d", goal, got, want)
		}
		count[got]++
		w.letGo()
	}
	for _, v := range []api.Verdict{api.Failed, api.OutOfFuel, api.Terminated, api.Suspended} {
		if count[v] < 20 {
			t.Errorf("verdict %d: %d times alone", v, count[v])
		}
	}
}

// rest lets all messages come, and all goals go that can.
func (w *world) rest(r *rand.Rand) {
	w.t.Helper()
	for range 20000 {
		if !w.act(r, 0) {
			return
		}
	}
	w.t.Fatal("it does not come to an end")
}

// letGo collects everywhere, again and again, until nothing is under way: what is held then is needed.
func (w *world) letGo() {
	w.t.Helper()
	for range 20 {
		for k := range w.nodes {
			w.do(k, api.Event{Kind: api.Collect})
		}
		for l := w.busy(); len(l) > 0; l = w.busy() {
			w.deliver(l[0])
		}
	}
	w.holds()
}

// TestStreamsEnd: what is reckoned far away is known in the end, collected or not.
func TestStreamsEnd(t *testing.T) {
	for seed := range 60 {
		r := rand.New(rand.NewSource(int64(seed)))
		w := newWorld(t, 3, 1000)
		w.submit("stream(S)")
		for i := 0; w.act(r, 30*(seed%2)) && i < 4000; i++ {
		}
		w.rest(r)
		verdict(t, w.nodes[0], api.Terminated)
		w.letGo()
		for k, n := range w.nodes {
			if len(n.Imports())+len(n.Exports()) > 0 || len(n.Heap().Bindings()) != len(n.Roots()) {
				t.Fatalf("node %d: %s", k, state(n))
			}
		}
		is(t, w.nodes[0], "knows ?0_0 := 15")
	}
}

// TestEquationThatGoesOn: it is sent as it stands. An owner that knows its own greater variable sends it to the lesser one's, which does not: that sends it back, for nothing but a value tells it.
func TestEquationThatGoesOn(t *testing.T) {
	two := made(t, "", 1, 2, 100, 8)
	do(t, two, "recv 0 ship 0.0 ?1_0 = 15 ; 1", "step")
	script(t, two, "recv 0 ship 0.1 ?0_0 = ?1_0 ; 1", "", "step", "0: ship 0.1 ?0_0 = ?1_0 ; 0+1 / 0: return 0 0 ; 0+1")
	one := made(t, "", 0, 2, 100, 8)
	knows := one.Fork()
	script(t, one, "recv 1 ship 0.1 ?0_0 = ?1_0 ; 1", "", "step", "1: ship 0.1 ?0_0 = ?1_0 ; 0+1")
	script(t, knows, "recv 1 value ?1_0 15 ; 1", "", "recv 1 ship 0.1 ?0_0 = ?1_0 ; 1", "", "step", "0.1 ?0_0 = ?1_0 => ?0_0 := 15")
}
