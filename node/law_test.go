package node_test

import (
	"fmt"
	"math"
	"math/rand"
	"slices"
	"strings"
	"testing"

	"purlin/api"
	"purlin/node"
	"purlin/syntax"
	"purlin/wire"
)

const lawProgram = `
	p(X) :- X > 0 | q(X) @ 1, Y = f(X, Z), r(Y). p(0). p(f(X, Y)) :- X = Y.
	q(a, X) :- X = Y, p(Y) @ Z. q(f(X, Z), Y) :- Y := X + 1. q(X) :- integer(X) | r(Z), Z = g(X, W). q(X) :- atom(X) | true.
	r(f(X, Y)) :- r(X), r(Y) @ 2. r(g(X, Y)) :- X = Y @ 2, p(X). r(a).
	w(X, Y) :- X > Y | true. w(X, Y) :- equal(X, a), known(Y) | p(X). big(X) :- b(X, X, X, Y). b(X, Y, Z, U) :- U = f(X, Y).
	mk :- m(A, B, C, D, E, F, G, H). m(A, B, C, D, E, F, G, H).`

// chance makes events.
type chance struct {
	*rand.Rand
	vars, nodes int
}

func (c chance) pick(l ...string) string { return l[c.Intn(len(l))] }

func (c chance) variable() string {
	k := c.Intn(c.nodes)
	if c.Intn(60) == 0 {
		k = c.Intn(api.MaxNodes)
	}
	return fmt.Sprintf("?%d_%d", k, c.Intn(c.vars))
}

func (c chance) part(depth int) string {
	switch n := c.Intn(12); {
	case n < 5:
		return c.variable()
	case n < 7:
		return c.pick("a", "b", "true")
	case n < 9:
		return c.pick("0", "1", "2", "3", "-1")
	case depth > 0:
		return c.pick("f", "g") + "(" + c.part(depth-1) + ", " + c.part(depth-1) + ")"
	}
	return "7"
}

// goal is any term that a goal can be.
func (c chance) goal() string {
	x, y := c.part(2), c.part(2)
	switch c.Intn(16) {
	case 0, 1, 2, 3, 4:
		return x + " = " + y
	case 5:
		return c.variable() + " := " + c.variable() + " + " + c.pick("1", c.variable())
	case 6, 7:
		return c.pick("p(", "q(a, ", "r(") + x + ") @ " + c.pick("0", "1", "2", "3", c.variable())
	case 8:
		return c.part(1)
	case 9:
		return "w(" + x + ", " + y + ")"
	case 10:
		if c.Intn(2) == 0 {
			return "big(" + textOf(nested(80+c.Intn(10), termText(c.variable()))) + ")"
		}
		return "f(" + strings.Join([]string{c.variable(), c.variable(), c.variable(), c.variable(), c.variable()}, ", ") + ") = " + c.variable()
	case 11, 12:
		return "q(" + x + c.pick(")", ", "+y+")")
	case 13:
		return "p(" + x + ")"
	}
	return "r(" + x + ")"
}

func termText(s string) api.Term {
	x, _, _, _ := syntax.Term(s)
	return x
}

func (c chance) amount() string {
	if c.Intn(150) == 0 {
		return c.pick("2147483647", "1073741824", "2147483646+1+2")
	}
	return c.pick("1", "0+1", "0+2", "3", "0+1+3", "1+2", "0+7")
}

func (c chance) message() string {
	amount := " ; " + c.amount()
	switch c.Intn(14) {
	case 0, 1:
		return "read " + c.variable() + amount
	case 2, 3, 4, 5:
		return "value " + c.variable() + " " + c.part(2) + amount
	case 6, 7, 8, 9:
		return fmt.Sprint("ship ", c.Intn(c.nodes), ".", c.Intn(99), " ", c.goal(), amount)
	case 10, 11:
		return fmt.Sprint("add ", c.variable(), " ", c.Intn(c.nodes))
	case 12:
		return fmt.Sprint("release ", c.variable(), " ", 1+c.Intn(3))
	}
	return fmt.Sprint("return ", c.Intn(3), " ", c.pick("0", "0", "0", "1", "2", "3"), amount)
}

// event is one of any kind, most of them such as are taken.
func (c chance) event(t testing.TB) api.Event {
	switch n := c.Intn(40); {
	case n < 18:
		return api.Event{Kind: api.Step}
	case n < 20:
		return api.Event{Kind: api.Collect}
	case n < 24:
		return api.Event{Kind: api.Submit, Term: termOf(t, c.pick("p(X)", "q(X, Y)", "w(X, a)", "r(f(X, Y))", "X = f(Y, Z)", "p(1)", "f(X, g(Y, Z), X)", "p(X) @ 1", "q"))}
	case n < 25:
		l := wrongEvents(t)
		return l[c.Intn(len(l))]
	case n < 26:
		b := bytesOf(t, messageOf(t, c.message()))
		b[c.Intn(len(b))] ^= 1 << c.Intn(8)
		return api.Event{Kind: api.Receive, From: c.Intn(c.nodes), Bytes: b}
	}
	return api.Event{Kind: api.Receive, From: c.Intn(c.nodes), Bytes: bytesOf(t, messageOf(t, c.message()))}
}

// roomy is a list with spare room behind its end, in which something stands.
func roomy[T any](l []T, x T) []T {
	if l == nil {
		return nil
	}
	all := append(slices.Clone(l), x, x, x)
	return all[:len(l)]
}

func spare[T any](l []T) []T { return l[:cap(l)] }

// marks fills lists, spare room too, with a mark each, and tells whether one lies in another one.
type marks struct{ checks []func() bool }

func mark[T comparable](m *marks, l []T, x T) {
	all := spare(l)
	for i := range all {
		all[i] = x
	}
	m.checks = append(m.checks, func() bool { return !slices.ContainsFunc(all, func(y T) bool { return y != x }) })
}

func (m *marks) shared() bool {
	return slices.ContainsFunc(m.checks, func(c func() bool) bool { return !c() })
}

// scramble overwrites all lists of an answer: whether two of them share memory.
func scramble(d node.Done) bool {
	m := &marks{}
	n := 0
	cells := func(x api.Term) { n++; mark(m, x, api.Cell{Kind: 77, N: n}) }
	goals := func(l []api.Goal) {
		for _, g := range l {
			cells(g.Term)
		}
		clear(spare(l))
	}
	for _, c := range d.Commit {
		cells(c.Goal.Term)
		goals(c.Goals)
		for _, b := range c.Bound {
			cells(b.Term)
		}
		clear(spare(c.Bound))
		n++
		mark(m, c.Fresh, name(n, n))
	}
	for _, o := range d.Sent {
		cells(o.Message.Term)
		n++
		mark(m, o.Message.Credit.Bits, n)
	}
	shared := m.shared()
	clear(spare(d.Commit))
	clear(spare(d.Sent))
	return shared
}

// scrambleState overwrites what a node tells of itself.
func scrambleState(n *node.Node) {
	for _, l := range [][]api.Goal{n.Queue(), n.Waiting()} {
		for _, g := range l {
			clear(spare(g.Term))
		}
		clear(spare(l))
	}
	h := n.Heap()
	for _, b := range h.Bindings() {
		h.Drop(b.Var)
	}
	h.Bind(name(0, 0), number(99))
	a, _ := n.Collected()
	clear(spare(a.Bits))
	clear(spare(n.Credit().Bits))
	clear(spare(n.Exports()))
	clear(spare(n.Imports()))
	clear(spare(n.Roots()))
}

type pair struct {
	n *node.Node
	s *slow
}

// TestLaws: a node does what one by the chapter's words does, in events by chance; so do its Forks, each by itself; what is handed in stays as it is; what is answered may be overwritten.
func TestLaws(t *testing.T) {
	count := map[string]int{}
	p := programOf(t, lawProgram)
	for seed := range 220 {
		nodes := 1 + seed%4
		c := chance{rand.New(rand.NewSource(int64(seed))), 3 + seed%7, nodes}
		i, budget := c.Intn(nodes), []int{0, 3, 40, 1000, 1000, 1000}[c.Intn(6)]
		if seed%5 == 0 {
			c.vars, budget = 90, 1000
		}
		handed := programOf(t, lawProgram)
		n, e := node.New(handed, i, nodes, budget)
		if e != api.OK {
			t.Fatal(e)
		}
		for _, clause := range handed {
			clear(clause.Head)
			clear(clause.Body)
		}
		l := []pair{{n, newSlow(p, i, nodes, budget)}}
		if c.vars == 90 {
			readyMany(t, &l[0])
		}
		for range 130 {
			k := c.Intn(len(l))
			if c.Intn(30) == 0 && len(l) < 4 {
				l = append(l, pair{l[k].n.Fork(), l[k].s.copied()})
			}
			twin(t, &l[k], c.event(t), count)
			scrambleState(l[k].n)
		}
		for _, x := range l {
			if got, want := state(x.n), x.s.state(); got != want {
				t.Fatalf("seed %d:\n%s\nwant\n%s", seed, got, want)
			}
		}
	}
	for _, what := range []string{"commit", "fails", "ship", "read", "value", "add", "release", "return", "fails by a clause", "new",
		fmt.Sprint("error ", api.ErrRange), fmt.Sprint("error ", api.ErrBytes), fmt.Sprint("error ", api.ErrForm), fmt.Sprint("error ", api.ErrOwner), fmt.Sprint("error ", api.ErrOrder),
		fmt.Sprint("error ", api.ErrFull), fmt.Sprint("error ", api.ErrExports), fmt.Sprint("error ", api.ErrIdle), fmt.Sprint("error ", api.ErrFuel),
	} {
		if count[what] < 5 {
			t.Errorf("%s: %d times alone", what, count[what])
		}
	}
}

// readyMany gives a pair many variables of its own, most of them exported, so that exports can become too many.
func readyMany(t *testing.T, x *pair) {
	t.Helper()
	if x.s.nodes == 1 {
		return
	}
	own, none := x.s.own, map[string]int{}
	other := (own + 1) % x.s.nodes
	for range 12 {
		for _, s := range []string{fmt.Sprintf("recv %d ship %d.0 mk ; 0+3", other, other), "step", "step"} {
			twin(t, x, eventOf(t, s), none)
		}
	}
	for k := range api.MaxExports - 1 {
		twin(t, x, eventOf(t, fmt.Sprintf("recv %d add ?%d_%d %d", other, own, k, other)), none)
	}
}

// twin does one event with both, holds what came of it together, and overwrites all that was handed in and answered.
func twin(t testing.TB, x *pair, e api.Event, count map[string]int) {
	t.Helper()
	handed := e
	handed.Bytes, handed.Term = roomy(e.Bytes, 0xaa), roomy(e.Term, api.Cell{Kind: 88})
	wasBytes, wasTerm := slices.Clone(spare(handed.Bytes)), slices.Clone(spare(handed.Term))
	before := state(x.n)
	d := x.n.Do(handed)
	if !slices.Equal(wasBytes, spare(handed.Bytes)) || !slices.Equal(wasTerm, spare(handed.Term)) {
		t.Fatalf("%v: what was handed in has changed", e)
	}
	clear(spare(handed.Bytes))
	clear(spare(handed.Term))
	want, behind := x.s.do(e)
	x.s = behind
	got := doneText(d)
	if got != want {
		t.Fatalf("%v at node %d of %d:\n%s\n%s; want %s", e, x.s.own, x.s.nodes, before, got, want)
	}
	if d.Errno != api.OK && (len(d.Commit) > 0 || len(d.Sent) > 0) {
		t.Fatal("beside an error:", got)
	}
	counted(d, got, count)
	if scramble(d) {
		t.Fatal("two lists of one answer share memory")
	}
	if got, want := state(x.n), x.s.state(); got != want {
		t.Fatalf("%v:\n%s\nwant\n%s", e, got, want)
	}
}

func counted(d node.Done, text string, count map[string]int) {
	if d.Errno != api.OK {
		count[text]++
	}
	for _, c := range d.Commit {
		count["commit"]++
		if c.Fails {
			count["fails"]++
		}
		if c.Fails && c.Clause >= 0 {
			count["fails by a clause"]++
		}
		if len(c.Fresh) > 0 {
			count["new"]++
		}
	}
	for _, o := range d.Sent {
		word, _, _ := strings.Cut(messageText(o.Message), " ")
		count[word]++
		if len(d.Sent) > 0 && !wire.Right(o.Message) {
			count["wrong "+word]++
		}
	}
}

// TestSameEventsSameNode is P19.5: two nodes that do the same events are the same, and send the same; a Fork at any place, too.
func TestSameEventsSameNode(t *testing.T) {
	for seed := range 40 {
		c := chance{rand.New(rand.NewSource(int64(900 + seed))), 5, 3}
		a, b := nodeOf(t, lawProgram, seed%3, 3, 200), nodeOf(t, lawProgram, seed%3, 3, 200)
		for range 80 {
			e := c.event(t)
			if c.Intn(10) == 0 {
				b = b.Fork()
			}
			if x, y := doneText(a.Do(e)), doneText(b.Do(e)); x != y {
				t.Fatalf("%s, %s", x, y)
			}
		}
		if x, y := whole(t, a), whole(t, b); x != y {
			t.Fatalf("%s\n\n%s", x, y)
		}
	}
}

// TestErrorsChangeNothing: an event that has an error changes nothing, not even what is not told.
func TestErrorsChangeNothing(t *testing.T) {
	errors := 0
	for seed := range 25 {
		c := chance{rand.New(rand.NewSource(int64(7000 + seed))), 4, 3}
		n := nodeOf(t, lawProgram, seed%3, 3, 60)
		for range 60 {
			e := c.event(t)
			f := n.Fork()
			if d := n.Do(e); d.Errno != api.OK {
				errors++
				if x, y := whole(t, n), whole(t, f); x != y {
					t.Fatalf("%v: %s\n\n%s", e, x, y)
				}
			}
		}
	}
	if errors < 100 {
		t.Error(errors)
	}
}

// TestForksGoTheirOwnWay is P4: whatever the one does, the other one is as it was.
func TestForksGoTheirOwnWay(t *testing.T) {
	for seed := range 25 {
		c := chance{rand.New(rand.NewSource(int64(500 + seed))), 4, 3}
		n := nodeOf(t, lawProgram, seed%3, 3, 300)
		for range 50 {
			n.Do(c.event(t))
		}
		f := n.Fork()
		for range 3 {
			before := whole(t, n)
			for range 30 {
				f.Do(c.event(t))
			}
			if after := whole(t, n); after != before {
				t.Fatalf("%s\n\n%s", before, after)
			}
			n, f = f, n
		}
	}
}

// TestEndsAtAnyArgument is P1.
func TestEndsAtAnyArgument(t *testing.T) {
	numbers := []int{math.MinInt, -1, 0, 1, 2, 3, 4, math.MaxInt}
	for i := range 2 {
		n := nodeOf(t, lawProgram, i, 2, 5)
		for _, e := range wrongEvents(t) {
			for _, from := range numbers {
				for k := range 6 {
					e.Kind, e.From = api.EventKind(k), from
					n.Do(e)
				}
			}
		}
	}
	for _, p := range []api.Program{{{}}, {{Head: api.Term{{}}}}, {{Head: atom("p"), Locals: math.MinInt}}, {{Head: atom("p"), Locals: math.MaxInt}}, make(api.Program, 1000)} {
		for _, i := range numbers {
			if n, e := node.New(p, i, i, i); n != nil || e == api.OK {
				t.Error(p, e)
			}
		}
	}
}
