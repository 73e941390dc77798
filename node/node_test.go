package node_test

import (
	"fmt"
	"math"
	"strings"
	"testing"

	"purlin/api"
	"purlin/heap"
	"purlin/node"
)

// The calls have the forms that chapter 19 lists.
var (
	_ func(api.Program, int, int, int) (*node.Node, api.Errno) = node.New
	_ func(*node.Node, api.Event) node.Done                    = (*node.Node).Do
	_ func(*node.Node) []api.Goal                              = (*node.Node).Queue
	_ func(*node.Node) []api.Goal                              = (*node.Node).Waiting
	_ func(*node.Node) *heap.Heap                              = (*node.Node).Heap
	_ func(*node.Node) []node.Count                            = (*node.Node).Exports
	_ func(*node.Node) []node.Count                            = (*node.Node).Imports
	_ func(*node.Node) api.Amount                              = (*node.Node).Credit
	_ func(*node.Node) (api.Amount, int)                       = (*node.Node).Collected
	_ func(*node.Node) api.Verdict                             = (*node.Node).Verdict
	_ func(*node.Node) int                                     = (*node.Node).Left
	_ func(*node.Node) []api.Name                              = (*node.Node).Roots
	_ func(*node.Node) *node.Node                              = (*node.Node).Fork
)

const example = "p(X) :- X > 0 | q(X) @ 1. q(X) :- Y := X + 1, r(Y). r(3)."

// made has variables 0, 1, .. of its own, as many as it is told, and nothing in its queue; its credit was collected.
func made(t testing.TB, program string, i, nodes, budget, vars int) *node.Node {
	t.Helper()
	n := nodeOf(t, program+" make :- keep(A, B, C, D, E, F, G, H). keep(A, B, C, D, E, F, G, H).", i, nodes, budget)
	for range vars / 8 {
		do(t, n, fmt.Sprintf("recv %d ship 0.99 make ; 1", (i+1)%nodes), "step", "step")
	}
	return n
}

func TestExample1(t *testing.T) {
	n := nodeOf(t, example, 0, 2, 100)
	script(t, n,
		"submit p(2)", "",
		"step", "0.0 p(2) => by 0 & 0.1 q(2) @ 1",
		"step", "0.1 q(2) @ 1 => 0.2 q(2) / 1: ship 0.2 q(2) ; 0+1",
		"step", fmt.Sprint("error ", api.ErrIdle))
	is(t, n, "collected 0+1 of 1", "credit 0", "queue ", "left 98", "verdict 0")
	k := nodeOf(t, example, 1, 2, 100)
	script(t, k,
		"recv 0 ship 0.2 q(2) ; 0+1", "",
		"step", "0.2 q(2) => by 1 & new ?1_0 & 1.0 ?1_0 := 2 + 1 & 1.1 r(?1_0)",
		"step", "1.0 ?1_0 := 2 + 1 => 1.2 ?1_0 = 3",
		"step", "",
		"step", "1.2 ?1_0 = 3 => ?1_0 := 3",
		"step", "1.1 r(?1_0) => by 2 / 0: return 0 0 ; 0+1")
	is(t, k, "credit 0", "queue ", "waits ", "knows ?1_0 := 3", "left 96", "verdict 0")
	script(t, n, "recv 1 return 0 0 ; 0+1", "")
	is(t, n, "collected 1 of 1", fmt.Sprint("verdict ", api.Terminated))
}

func TestExample2(t *testing.T) {
	n := made(t, "p.", 0, 3, 100, 8)
	do(t, n, "recv 1 ship 1.0 ?0_0 = f(?0_1, ?2_5) ; 1", "step")
	script(t, n,
		"recv 1 read ?0_0 ; 0+1", "2: add ?2_5 1 / 1: value ?0_0 f(?0_1, ?2_5) ; 0+2",
		"recv 2 read ?0_3 ; 0+1", "")
	is(t, n, "credit 0", "out ?0_1 1 1", "in ?2_5 2 1")
	n = made(t, "p.", 1, 3, 100, 8)
	script(t, n,
		"recv 2 read ?1_3 ; 0+1", "0: return 0 0 ; 0+1",
		"recv 2 ship 2.0 p ; 1", "",
		"recv 2 read ?1_4 ; 0+1", "")
	is(t, n, "credit 1+1", "out ", "in ")
}

// TestWholeExamples are DOC.md's.
func TestWholeExamples(t *testing.T) {
	n := nodeOf(t, example, 0, 2, 100)
	script(t, n, "submit p(0)", "", "step", "0.0 p(0) => fails")
	is(t, n, fmt.Sprint("verdict ", api.Failed))
	n = nodeOf(t, example, 0, 2, 100)
	script(t, n, "submit p(Z)", "", "step", "")
	is(t, n, "waits 0.0 p(?0_0)", fmt.Sprint("verdict ", api.Suspended), "collected 1 of 1")
	n = nodeOf(t, "m(X, Y) :- X = f(Y), X = f(a). k(X) :- X = a, X = b.", 0, 2, 100)
	script(t, n, "submit m(X, Y)", "", "step", "0.0 m(?0_0, ?0_1) => by 0 & 0.1 ?0_0 = f(?0_1) & 0.2 ?0_0 = f(a)",
		"step", "0.1 ?0_0 = f(?0_1) => ?0_0 := f(?0_1)", "step", "0.2 ?0_0 = f(a) => 0.3 ?0_1 = a", "step", "0.3 ?0_1 = a => ?0_1 := a")
	is(t, n, fmt.Sprint("verdict ", api.Terminated), "left 96", "roots ?0_0 & ?0_1")
	script(t, n, "submit k(X)", "", "step", "0.4 k(?0_2) => by 1 & 0.5 ?0_2 = a & 0.6 ?0_2 = b", "step", "0.5 ?0_2 = a => ?0_2 := a", "step", "0.6 ?0_2 = b => fails")
	is(t, n, fmt.Sprint("verdict ", api.Failed))
	n = made(t, "p.", 0, 2, 100, 8)
	script(t, n, "recv 1 ship 1.9 ?0_1 = ?1_0 ; 1", "", "step", "1: ship 1.9 ?0_1 = ?1_0 ; 0+1")
	is(t, n, "left 98", "out ?0_1 1 1", "in ?1_0 1 1")
	k := made(t, "p.", 1, 2, 100, 8)
	script(t, k, "recv 0 ship 1.9 ?0_1 = ?1_0 ; 0+1", "", "step", "1.9 ?0_1 = ?1_0 => ?1_0 := ?0_1 / 0: return 0 0 ; 0+1")
	is(t, k, "knows ?1_0 := ?0_1")
	n = nodeOf(t, "s(X) :- s(X).", 0, 1, 3)
	script(t, n, "submit s(1)", "", "step", "0.0 s(1) => by 0 & 0.1 s(1)", "step", "0.1 s(1) => by 0 & 0.2 s(1)")
	is(t, n, fmt.Sprint("verdict ", api.Running), "credit 1")
	script(t, n, "step", "0.2 s(1) => by 0 & 0.3 s(1)", "step", fmt.Sprint("error ", api.ErrFuel))
	is(t, n, fmt.Sprint("verdict ", api.OutOfFuel), "credit 0", "collected 1 of 1", "left 0")
}

func TestNew(t *testing.T) {
	right := programOf(t, example)
	wrong := append(programOf(t, example), api.Clause{Head: number(1)})
	numbers := []int{math.MinInt, -1, 0, 1, 2, 3, 4, 5, 8, api.MaxBudget - 1, api.MaxBudget, api.MaxBudget + 1, math.MaxInt}
	for _, i := range numbers {
		for _, nodes := range numbers {
			for _, budget := range numbers {
				want := api.ErrRange
				if nodes >= 1 && nodes <= 4 && i >= 0 && i <= nodes-1 && budget >= 0 && budget <= 1<<20 {
					want = api.OK
				}
				n, e := node.New(right, i, nodes, budget)
				if e != want || (n != nil) != (want == api.OK) {
					t.Fatalf("New(%d, %d, %d): %v", i, nodes, budget, e)
				}
				if n != nil && n.Left() != budget {
					t.Fatalf("New(%d, %d, %d): %d left", i, nodes, budget, n.Left())
				}
				if n, e := node.New(wrong, i, nodes, budget); e != api.ErrHead || n != nil {
					t.Fatalf("New of a wrong program (%d, %d, %d): %v", i, nodes, budget, e)
				}
			}
		}
	}
	for want, text := range map[api.Errno]string{api.ErrHead: "p(X, X).", api.ErrGuard: "p(X) :- Y > 0 | true.", api.ErrBody: "p(X) :- X + 1.", api.ErrPred: "p(X) :- q(X)."} {
		if n, e := node.New(programOf(t, text), 0, 1, 1); n != nil || e != want {
			t.Errorf("%s: %v", text, e)
		}
	}
	if n, e := node.New(make(api.Program, api.MaxClauses+1), 9, 9, -1); n != nil || e != api.ErrLong {
		t.Error(e)
	}
	n, e := node.New(nil, 3, 4, 7)
	if e != api.OK {
		t.Fatal(e)
	}
	if got := state(n); got != "queue \nwaits \nknows \nout \nin \ncredit 0\ncollected 0 of 0\nleft 7\nroots \nverdict 0" {
		t.Error(got)
	}
	is(t, nodeOf(t, "p.", 0, 4, 0), fmt.Sprint("verdict ", api.Terminated), "left 0")
}

// TestNil is P1 of a node that is none.
func TestNil(t *testing.T) {
	var n *node.Node
	for _, e := range wrongEvents(t) {
		if d := n.Do(e); d.Errno != api.ErrNil || len(d.Commit)+len(d.Sent) > 0 {
			t.Error(d)
		}
	}
	if a, units := n.Collected(); a.Whole != 0 || len(a.Bits) > 0 || units != 0 {
		t.Error(a, units)
	}
	if a := n.Credit(); a.Whole != 0 || len(a.Bits) > 0 {
		t.Error(a)
	}
	if len(n.Queue()) > 0 || len(n.Waiting()) > 0 || n.Heap() != nil || len(n.Exports()) > 0 || len(n.Imports()) > 0 || n.Verdict() != api.Running || n.Left() != 0 || len(n.Roots()) > 0 || n.Fork() != nil {
		t.Error("a nil node tells something")
	}
}

// wrongEvents are events that no node takes, or that one may take, or may not.
func wrongEvents(t testing.TB) []api.Event {
	l := []api.Event{{}, {Kind: 5}, {Kind: 255, From: 1, Bytes: []byte{1}, Term: atom("a")}, {Kind: api.Step}, {Kind: api.Collect}}
	for _, from := range []int{math.MinInt, -1, 0, 1, 2, 3, 4, math.MaxInt} {
		for _, b := range [][]byte{nil, {}, {0}, {1}, {255}, {6, 0, 0, 1, 0}, bytesOf(t, messageOf(t, "ship 0.9 p ; 1")), make([]byte, api.MaxMessage+1)} {
			l = append(l, api.Event{Kind: api.Receive, From: from, Bytes: b})
		}
	}
	for _, x := range []api.Term{nil, {}, {{}}, number(1), atom("a"), atom("A"), variable(-1, 0), variable(0, 0), structure("p"), nested(300, number(1)), structure("p", variable(-1, math.MinInt))} {
		l = append(l, api.Event{Kind: api.Submit, Term: x})
	}
	return l
}

// TestKindThatIsNone, and what an event has beside its own plays no part.
func TestKindThatIsNone(t *testing.T) {
	n := nodeOf(t, example, 0, 2, 100)
	do(t, n, "submit p(Z)")
	for k := range 256 {
		if kind := api.EventKind(k); kind < api.Step || kind > api.Collect {
			refuses(t, n, api.ErrForm, api.Event{Kind: kind})
		}
	}
	refuses(t, n, api.ErrForm, api.Event{Kind: 9, From: 1, Bytes: bytesOf(t, messageOf(t, "ship 0.9 p ; 1")), Term: atom("p")})
	f := n.Fork()
	if d := f.Do(api.Event{Kind: api.Step, From: -7, Bytes: []byte{9}, Term: number(3)}); d.Errno != api.OK {
		t.Error(d)
	}
	if d := f.Do(api.Event{Kind: api.Collect, From: 77, Bytes: []byte{9}, Term: api.Term{{}}}); d.Errno != api.OK {
		t.Error(d)
	}
}

// stepping is a node in whose queue a goal stands, with variables 0 to 7 of its own, ?i_0 bound to what is said.
func stepping(t testing.TB, program string, i int, goal string, knows ...string) *node.Node {
	t.Helper()
	n := made(t, program, i, 3, 1000, 8)
	other := (i + 1) % 3
	for _, s := range knows {
		x := termOf(t, s)
		if x[1].Var.Node == i {
			do(t, n, fmt.Sprintf("recv %d ship 0.98 %s ; 1", other, s), "step")
			continue
		}
		do(t, n, fmt.Sprintf("recv %d value %s %s ; 1", other, varText(x[1].Var), textOf(x[2:])))
	}
	do(t, n, fmt.Sprintf("recv %d ship 2.7 %s ; 1", other, goal))
	return n
}

// TestStep: goals of each kind, at node 1 of three; its next goal is 1.1, its next variable ?1_8.
func TestStep(t *testing.T) {
	program := "p(X) :- X > 0 | q(X, Y), q(Y, Z). p(f(X)). q(X, Y). w(a, X) :- X > 0 | true. w(X, b) :- X =:= 1 | true. z. t(X) :- X = Y, true, z, Y := 1 + 1, z @ 2."
	back := " / 0: return 0 0 ; 1"
	for _, c := range []struct{ goal, knows, want string }{
		{"true", "", "2.7 true => " + back},
		{"?1_0", "?1_0 = true", "2.7 ?1_0 => " + back},
		{"?0_1", "?0_1 = ?0_0; ?0_0 = true", "2.7 ?0_1 => " + back},
		{"7", "", "2.7 7 => fails / 0: return 0 1 ; 1"},
		{"-2147483648", "", "2.7 -2147483648 => fails / 0: return 0 1 ; 1"},
		{"?1_0", "?1_0 = 7", "2.7 ?1_0 => fails / 0: return 0 1 ; 1"},
		{"a", "", "2.7 a => fails / 0: return 0 1 ; 1"},
		{"true(1)", "", "2.7 true(1) => fails / 0: return 0 1 ; 1"},
		{"1 + 1", "", "2.7 1 + 1 => fails / 0: return 0 1 ; 1"},
		{"1 < 2", "", "2.7 1 < 2 => fails / 0: return 0 1 ; 1"},
		// Equations.
		{"a = a", "", "2.7 a = a => " + back},
		{"3 = 3", "", "2.7 3 = 3 => " + back},
		{"?1_0 = ?1_0", "", "2.7 ?1_0 = ?1_0 => " + back},
		{"?2_0 = ?2_0", "", "2.7 ?2_0 = ?2_0 => " + back},
		{"?1_0 = a", "?1_0 = a", "2.7 ?1_0 = a => " + back},
		{"a = b", "", "2.7 a = b => fails / 0: return 0 1 ; 1"},
		{"a = 1", "", "2.7 a = 1 => fails / 0: return 0 1 ; 1"},
		{"f(a) = f(a, b)", "", "2.7 f(a) = f(a, b) => fails / 0: return 0 1 ; 1"},
		{"?1_0 = a", "?1_0 = b", "2.7 ?1_0 = a => fails / 0: return 0 1 ; 1"},
		{"?1_0 = a", "", "2.7 ?1_0 = a => ?1_0 := a" + back},
		{"f(?2_2, ?1_1) = ?1_0", "", "2.7 f(?2_2, ?1_1) = ?1_0 => ?1_0 := f(?2_2, ?1_1)" + back},
		{"?1_0 = ?1_1", "", "2.7 ?1_0 = ?1_1 => ?1_1 := ?1_0" + back},
		{"?1_5 = ?0_7", "", "2.7 ?1_5 = ?0_7 => ?1_5 := ?0_7" + back},
		{"?1_5 = ?2_0", "", "2: ship 2.7 ?1_5 = ?2_0 ; 0+1 / 0: return 0 0 ; 0+1"},
		{"?2_0 = a", "", "2: ship 2.7 ?2_0 = a ; 0+1 / 0: return 0 0 ; 0+1"},
		{"?0_0 = ?2_0", "", "0: add ?0_0 2 / 2: ship 2.7 ?0_0 = ?2_0 ; 0+1 / 0: return 0 0 ; 0+1"},
		{"?0_0 = f(?2_0, ?1_1, ?2_0)", "", "2: add ?2_0 0 / 0: ship 2.7 ?0_0 = f(?2_0, ?1_1, ?2_0) ; 0+1 / 0: return 0 0 ; 0+1"},
		{"?1_0", "?1_0 = (?2_0 = ?0_3)", "2: ship 2.7 ?1_0 ; 0+1 / 0: return 0 0 ; 0+1"},
		{"?2_1 = a", "?2_1 = f(b)", "2.7 ?2_1 = a => fails / 0: return 0 1 ; 1"},
		{"?2_1 = a", "?2_1 = ?2_0", "2: ship 2.7 ?2_1 = a ; 0+1 / 0: return 0 0 ; 0+1"},
		{"?2_1 = a", "?2_1 = ?1_3", "2.7 ?2_1 = a => ?1_3 := a" + back},
		{"f(a, ?1_0) = f(?1_1, g(?1_2))", "", "2.7 f(a, ?1_0) = f(?1_1, g(?1_2)) => 1.1 a = ?1_1 & 1.2 ?1_0 = g(?1_2)"},
		{"?1_0 = f(1)", "?1_0 = f(?1_1)", "2.7 ?1_0 = f(1) => 1.1 ?1_1 = 1"},
		// Sums.
		{"?1_0 := 1 + 2 * 3", "", "2.7 ?1_0 := 1 + 2 * 3 => 1.1 ?1_0 = 7"},
		{"f(?2_0) := ?1_1 - 1", "?1_1 = 1", "2.7 f(?2_0) := ?1_1 - 1 => 1.1 f(?2_0) = 0"},
		{"?1_0 := a", "", "2.7 ?1_0 := a => fails / 0: return 0 1 ; 1"},
		{"?1_0 := div(1, 0)", "", "2.7 ?1_0 := div(1, 0) => fails / 0: return 0 1 ; 1"},
		{"?1_0 := ?1_1 + a", "", "2.7 ?1_0 := ?1_1 + a => fails / 0: return 0 1 ; 1"},
		{"?1_0 := 2147483647 + 2", "", "2.7 ?1_0 := 2147483647 + 2 => fails / 0: return 0 1 ; 1"},
		{"?1_0 := ?1_1 + 1", "", "0: return 1 0 ; 1"},
		{"?1_0 := ?2_1 + ?1_1 * ?0_5 + ?2_1", "", "2: read ?2_1 ; 0+1 / 0: read ?0_5 ; 0+2 / 0: return 1 0 ; 0+2"},
		// Places.
		{"z @ 1", "", "2.7 z @ 1 => 1.1 z"},
		{"?2_2 @ 1", "", "2.7 ?2_2 @ 1 => 1.1 ?2_2"},
		{"z @ 0", "", "2.7 z @ 0 => 1.1 z / 0: ship 1.1 z ; 0+1 / 0: return 0 0 ; 0+1"},
		{"q(?2_0, ?1_1, ?0_5) @ 2", "", "2.7 q(?2_0, ?1_1, ?0_5) @ 2 => 1.1 q(?2_0, ?1_1, ?0_5) / 0: add ?0_5 2 / 2: ship 1.1 q(?2_0, ?1_1, ?0_5) ; 0+1 / 0: return 0 0 ; 0+1"},
		{"(z @ 2) @ ?1_0", "?1_0 = 0", "2.7 (z @ 2) @ ?1_0 => 1.1 z @ 2 / 0: ship 1.1 z @ 2 ; 0+1 / 0: return 0 0 ; 0+1"},
		{"z @ 3", "", "2.7 z @ 3 => fails / 0: return 0 1 ; 1"},
		{"z @ -1", "", "2.7 z @ -1 => fails / 0: return 0 1 ; 1"},
		{"z @ a", "", "2.7 z @ a => fails / 0: return 0 1 ; 1"},
		{"z @ (0 + 1)", "", "2.7 z @ 0 + 1 => fails / 0: return 0 1 ; 1"},
		{"z @ ?1_0", "?1_0 = f(1)", "2.7 z @ ?1_0 => fails / 0: return 0 1 ; 1"},
		{"z @ ?1_0", "", "0: return 1 0 ; 1"},
		{"z @ ?2_0", "", "2: read ?2_0 ; 0+1 / 0: return 1 0 ; 0+1"},
		// Variables.
		{"?1_0", "", "0: return 1 0 ; 1"},
		{"?2_3", "", "2: read ?2_3 ; 0+1 / 0: return 1 0 ; 0+1"},
		{"?2_3", "?2_3 = ?0_9", "0: read ?0_9 ; 0+1 / 0: return 1 0 ; 0+1"},
		// Calls.
		{"z", "", "2.7 z => by 5" + back},
		{"p(1)", "", "2.7 p(1) => by 0 & new ?1_8 & new ?1_9 & 1.1 q(1, ?1_8) & 1.2 q(?1_8, ?1_9)"},
		{"p(f(?2_0))", "", "2.7 p(f(?2_0)) => by 1" + back},
		{"p(0)", "", "2.7 p(0) => fails / 0: return 0 1 ; 1"},
		{"p(a)", "", "2.7 p(a) => fails / 0: return 0 1 ; 1"},
		{"p(?1_0)", "?1_0 = 1", "2.7 p(?1_0) => by 0 & new ?1_8 & new ?1_9 & 1.1 q(?1_0, ?1_8) & 1.2 q(?1_8, ?1_9)"},
		{"?1_1", "?1_0 = 1; ?1_1 = p(?1_0)", "2.7 ?1_1 => by 0 & new ?1_8 & new ?1_9 & 1.1 q(?1_0, ?1_8) & 1.2 q(?1_8, ?1_9)"},
		{"p(?1_0)", "", "0: return 1 0 ; 1"},
		{"w(?2_2, ?0_1)", "", "2: read ?2_2 ; 0+1 / 0: read ?0_1 ; 0+2 / 0: return 1 0 ; 0+2"},
		{"w(a, ?0_1)", "", "0: read ?0_1 ; 0+1 / 0: return 1 0 ; 0+1"},
		{"w(b, ?0_1)", "", "0: read ?0_1 ; 0+1 / 0: return 1 0 ; 0+1"},
		{"w(1, b)", "", "2.7 w(1, b) => by 4 & 1.1 true"},
		{"nobody", "", "2.7 nobody => fails / 0: return 0 1 ; 1"},
		{"t(?0_0)", "", "2.7 t(?0_0) => by 6 & new ?1_8 & 1.1 ?0_0 = ?1_8 & 1.2 true & 1.3 z & 1.4 ?1_8 := 1 + 1 & 1.5 z @ 2"},
	} {
		var knows []string
		if c.knows != "" {
			knows = strings.Split(c.knows, "; ")
		}
		n := stepping(t, program, 1, c.goal, knows...)
		left := n.Left()
		got := do(t, n, "step")
		if got != c.want {
			t.Errorf("%s, %s: %s; want %s", c.goal, c.knows, got, c.want)
		}
		if strings.Contains(got, "=>") {
			left--
		}
		if n.Left() != left {
			t.Errorf("%s: %d left, want %d", c.goal, n.Left(), left)
		}
	}
}
