package durable_test

import (
	"bytes"
	"fmt"
	"math/rand"
	"slices"
	"testing"

	"purlin/api"
	"purlin/durable"
	"purlin/model"
	"purlin/net"
	"purlin/node"
	"purlin/term"
)

const worldProgram = example + `
	stream(S) :- gen(4, L) @ 1, sum(L, 0, S) @ 2.
	gen(N, L) :- N =< 0 | L = nil. gen(N, L) :- N > 0 | L = cons(N, T), M := N - 1, gen(M, T).
	sum(nil, A, S) :- S := A. sum(cons(X, T), A, S) :- B := A + X, sum(T, B, S).
	bad(X) :- X = a @ 1, X = b @ 2. hang(X) :- w(X) @ 1, w(Y) @ 2. turn(X) :- turn(X) @ 1, r(3) @ 2.`

// world is nodes that crash, over a network that loses, doubles and reorders; and the abstract machine of what happened.
type world struct {
	t     *testing.T
	nodes []*durable.Durable
	net   *net.Net
	m     *model.Model
}

func newWorld(t *testing.T, budget int) *world {
	t.Helper()
	p := programOf(t, worldProgram)
	m, e := model.New(p, 3)
	if e != api.OK {
		t.Fatal(e)
	}
	w := &world{t: t, m: m}
	w.net, _ = net.New(3)
	for k := range 3 {
		w.nodes = append(w.nodes, durableOf(t, worldProgram, k, 3, budget))
	}
	return w
}

// happened holds what a node did against the machine, and lets what it sent wait.
func (w *world) happened(done node.Done, sent []api.Datagram) {
	w.t.Helper()
	for _, c := range done.Commit {
		if e := w.m.Take(c); e != api.OK {
			w.t.Fatalf("%v is no reduction: %v", c, e)
		}
	}
	if e := w.net.Send(sent...); e != api.OK {
		w.t.Fatal(sent, e)
	}
}

func (w *world) submit(goal string) {
	w.t.Helper()
	done, sent := did(w.t, w.nodes[0], submit(w.t, goal))
	l := w.nodes[0].Node().Queue()
	if e := w.m.Submit(l[len(l)-1]); e != api.OK {
		w.t.Fatal(e)
	}
	w.happened(done, sent)
}

// do does an event with a cut: P20.5: it has happened, or the node is as it was.
func (w *world) do(k int, e api.Event, cut int) bool {
	w.t.Helper()
	before := w.nodes[k].Fork()
	done, sent, errno := w.nodes[k].Do(e, cut)
	w.happened(done, sent)
	if errno == api.OK && cut > 0 {
		w.cutWas(k, before, func(d *durable.Durable) { d.Do(e, 0) })
	}
	return errno == api.OK
}

func (w *world) deliver(number, cut int) {
	w.t.Helper()
	g, e := w.net.Deliver(number)
	if e != api.OK {
		w.t.Fatal(e)
	}
	before := w.nodes[g.To].Fork()
	done, sent, e := w.nodes[g.To].Take(g, cut)
	if e != api.OK && e != api.ErrDown {
		w.t.Fatal(g, e)
	}
	w.happened(done, sent)
	if e == api.OK && cut > 0 {
		w.cutWas(g.To, before, func(d *durable.Durable) { d.Take(g, 0) })
	}
}

// cutWas: the node is down, and as it was ahead of what it did, or behind it, as there is one record more or not.
func (w *world) cutWas(k int, before *durable.Durable, again func(d *durable.Durable)) {
	w.t.Helper()
	d := w.nodes[k]
	ahead := len(before.Events())
	if len(d.Events()) > ahead {
		again(before)
	}
	if d.Up() || fmt.Sprint(d.Events()) != fmt.Sprint(before.Events()) || nodeText(w.t, d.Node()) != nodeText(w.t, before.Node()) {
		w.t.Fatalf("node %d, cut: %s\nwant\n%s", k, whole(w.t, d), whole(w.t, before))
	}
}

// crash: behind Restart the node is as it was, the link awaits what it awaited, and the outbox has what it had.
func (w *world) crash(k int) {
	w.t.Helper()
	d := w.nodes[k]
	node, link := nodeText(w.t, d.Node()), d.Link()
	if d.Crash() != api.OK {
		return
	}
	if _, e := d.Restart(); e != api.OK {
		w.t.Fatal(e)
	}
	if got := nodeText(w.t, d.Node()); got != node {
		w.t.Fatalf("%s\nwas\n%s", got, node)
	}
	for i := range 3 {
		if d.Link().Next(i) != link.Next(i) || d.Link().Sent(i) != link.Sent(i) {
			w.t.Fatalf("%s, was %s", linkText(d.Link()), linkText(link))
		}
	}
	has := d.Link().Outbox()
	for _, g := range link.Outbox() {
		if !slices.ContainsFunc(has, func(h api.Datagram) bool {
			return h.To == g.To && h.Seq == g.Seq && bytes.Equal(h.Bytes, g.Bytes)
		}) {
			w.t.Fatalf("%v is not in the outbox any more", g)
		}
	}
}

// known is what each owner has bound, of what it had to keep.
func (w *world) valuesHold() {
	w.t.Helper()
	for k, d := range w.nodes {
		for _, b := range d.Node().Heap().Bindings() {
			if u, ok := w.m.Heap().Value(b.Var); !ok || !term.Equal(u, b.Term) {
				w.t.Fatalf("node %d: %v is %v", k, b, u)
			}
		}
	}
	for _, v := range w.nodes[0].Node().Roots() {
		_, has := w.nodes[0].Node().Heap().Value(v)
		if _, want := w.m.Heap().Value(v); has != want {
			w.t.Fatalf("root %v: %v", v, has)
		}
	}
}

// fault does something by chance that goes wrong, or does not.
func (w *world) fault(r *rand.Rand) {
	w.t.Helper()
	cut := 0
	if r.Intn(5) == 0 {
		cut = 1 + r.Intn(40)
	}
	k, waiting := r.Intn(3), w.net.Len()
	switch n := r.Intn(30); {
	case n < 10:
		w.do(k, step(), cut)
	case n < 11:
		w.do(k, collect(), cut)
	case n < 13:
		w.crash(k)
	case n < 15:
		w.nodes[k].Restart()
	case n < 18:
		l, _ := w.nodes[k].Resend()
		w.happened(node.Done{}, l)
	case waiting == 0:
	case n < 26:
		w.deliver(r.Intn(waiting), cut)
	case n < 28:
		w.net.Drop(r.Intn(waiting))
	default:
		w.net.Double(r.Intn(waiting))
	}
}

// tail goes round without faults until there is a verdict.
func (w *world) tail() api.Verdict {
	w.t.Helper()
	for range 400 {
		for _, d := range w.nodes {
			d.Restart()
		}
		for k, d := range w.nodes {
			w.do(k, step(), 0)
			l, _ := d.Resend()
			w.happened(node.Done{}, l)
		}
		for n := w.net.Len(); n > 0; n-- {
			w.deliver(0, 0)
		}
		if v := w.nodes[0].Node().Verdict(); v != api.Running && w.net.Len() == 0 {
			return v
		}
		for w.net.Len() > 30 { // what is resent again and again need not all come
			w.net.Drop(0)
		}
	}
	return w.nodes[0].Node().Verdict()
}

// TestWorlds: E1, E2, E3, E6 and E8 of nodes that crash over a network with faults.
func TestWorlds(t *testing.T) {
	want := map[string]api.Verdict{"p(2)": api.Terminated, "stream(S)": api.Terminated, "bad(X)": api.Failed, "hang(X)": api.Suspended, "p(0)": api.Failed, "w(X)": api.Suspended, "turn(1)": api.OutOfFuel}
	goals := []string{"p(2)", "stream(S)", "bad(X)", "hang(X)", "p(0)", "w(X)", "turn(1)"}
	for seed := range 70 {
		r := rand.New(rand.NewSource(int64(seed)))
		goal, budget := goals[seed%len(goals)], 1000
		if goal == "turn(1)" {
			budget = 12
		}
		w := newWorld(t, budget)
		w.submit(goal)
		for i := range 150 {
			w.fault(r)
			if i%10 == 0 {
				w.valuesHold()
			}
		}
		if got := w.tail(); got != want[goal] {
			t.Fatalf("%s, seed %d: verdict %d, want %d", goal, seed, got, want[goal])
		}
		w.valuesHold()
		if goal == "stream(S)" {
			if u, e := w.nodes[0].Node().Heap().Resolve(variable(0, 0)); e != api.OK || !term.Equal(u, number(10)) {
				t.Fatal(u, e)
			}
		}
		if v := want[goal]; (v == api.Terminated) != (len(w.m.Goals()) == 0) && v != api.Failed || v == api.Suspended && len(w.m.Open()) > 0 || w.m.Failed() != (v == api.Failed) {
			t.Fatal(goal, w.m.Goals())
		}
	}
}
