package trace_test

import (
	"fmt"
	"math/rand"
	"slices"
	"strconv"
	"strings"
	"testing"

	"purlin/api"
	"purlin/cluster"
	"purlin/model"
	"purlin/syntax"
	"purlin/trace"
)

// The tests write commits as Print does, with new variables behind: "1: 0.2 q(2) by 1 ; 1.0 ?1_0 := 2 + 1 & ?1_0".

const example = "p(X) :- X > 0 | q(X) @ 1. q(X) :- Y := X + 1, r(Y). r(3)."

func name(node, number int) api.Name { return api.Name{Node: node, Number: number} }

func termOf(t testing.TB, text string) api.Term {
	t.Helper()
	x, _, e, at := syntax.Term(text)
	if e != api.OK {
		t.Fatalf("%q: %v at %d", text, e, at)
	}
	return x
}

func programOf(t testing.TB, text string) api.Program {
	t.Helper()
	p, e, at := syntax.Program(text)
	if e != api.OK {
		t.Fatalf("%q: %v at %d", text, e, at)
	}
	return p
}

func nameOf(t testing.TB, text, between string) api.Name {
	t.Helper()
	a, b, _ := strings.Cut(strings.TrimPrefix(text, "?"), between)
	node, wrong := strconv.Atoi(a)
	number, wrongToo := strconv.Atoi(b)
	if wrong != nil || wrongToo != nil {
		t.Fatalf("name %q", text)
	}
	return name(node, number)
}

// goalOf reads a name, a blank, and a term.
func goalOf(t testing.TB, text string) api.Goal {
	t.Helper()
	n, x, _ := strings.Cut(text, " ")
	return api.Goal{Name: nameOf(t, n, "."), Term: termOf(t, x)}
}

func goalsOf(t testing.TB, texts ...string) (l []api.Goal) {
	t.Helper()
	for _, s := range texts {
		l = append(l, goalOf(t, s))
	}
	return l
}

func commitOf(t testing.TB, text string) api.Commit {
	t.Helper()
	text, fresh, _ := strings.Cut(text, " & ")
	node, text, _ := strings.Cut(text, ": ")
	c := api.Commit{Node: nameOf(t, node+"_0", "_").Node, Clause: -1}
	for _, v := range strings.Fields(fresh) {
		c.Fresh = append(c.Fresh, nameOf(t, v, "_"))
	}
	parts := strings.Split(text, " ; ")
	first, clause, has := strings.Cut(parts[0], " by ")
	if has {
		c.Clause = nameOf(t, clause+"_0", "_").Node
	}
	first, c.Fails = strings.CutSuffix(first, " fails")
	c.Goal = goalOf(t, first)
	for _, s := range parts[1:] {
		if v, x, is := strings.Cut(s, " := "); is && v[0] == '?' {
			c.Bound = append(c.Bound, api.Binding{Var: nameOf(t, v, "_"), Term: termOf(t, x)})
			continue
		}
		c.Goals = append(c.Goals, goalOf(t, s))
	}
	return c
}

func commitsOf(t testing.TB, lines ...string) (l []api.Commit) {
	t.Helper()
	for _, s := range lines {
		l = append(l, commitOf(t, s))
	}
	return l
}

// ofExample is DOC.md's p(2).
func ofExample(t testing.TB) (api.Program, []api.Goal, []api.Commit) {
	t.Helper()
	return programOf(t, example), goalsOf(t, "0.0 p(2)"), commitsOf(t,
		"0: 0.0 p(2) by 0 ; 0.1 q(2) @ 1",
		"0: 0.1 q(2) @ 1 ; 0.2 q(2)",
		"1: 0.2 q(2) by 1 ; 1.0 ?1_0 := 2 + 1 ; 1.1 r(?1_0) & ?1_0",
		"1: 1.0 ?1_0 := 2 + 1 ; 1.2 ?1_0 = 3",
		"1: 1.2 ?1_0 = 3 ; ?1_0 := 3",
		"1: 1.1 r(?1_0) by 2")
}

// state is all that a machine is: what it tells, and which names are used.
func state(m *model.Model) string {
	if m == nil {
		return "none"
	}
	text := fmt.Sprint(m.Goals(), m.Open(), m.Heap().Bindings(), m.Failed())
	for node := range api.MaxNodes {
		for number := range 40 {
			f := m.Fork()
			goal := api.Goal{Name: name(node, number), Term: api.Term{{Kind: api.Atom, Text: "true"}}}
			text += fmt.Sprint(" ", f.Submit(goal))
			// A new variable of that name, by the program's first clause whose body has one.
			f.Submit(api.Goal{Name: name(0, 1<<20), Term: api.Term{{Kind: api.Atom, Text: "probe"}}})
			text += fmt.Sprint(f.Take(api.Commit{Node: node, Clause: 0, Goal: api.Goal{Name: name(0, 1<<20), Term: api.Term{{Kind: api.Atom, Text: "probe"}}}, Fresh: []api.Name{name(node, number)}, Goals: []api.Goal{{Name: name(node, 1<<21), Term: api.Term{{Kind: api.Struct, Text: "=", N: 2}, {Kind: api.Var, Var: name(node, number)}, {Kind: api.Var, Var: name(node, number)}}}}}))
		}
	}
	return text
}

func same(a, b []api.Commit) bool {
	return slices.EqualFunc(a, b, func(x, y api.Commit) bool { return commitText(x) == commitText(y) })
}

// commitText is all that a commit is, empty lists being none.
func commitText(c api.Commit) string {
	return fmt.Sprint(c.Node, c.Goal, c.Fails, c.Clause, len(c.Fresh), c.Fresh, len(c.Bound), c.Bound, len(c.Goals), c.Goals)
}

const lawProgram = `probe :- X = X. ` + example + `
	stream(S) :- gen(3, L) @ 1, sum(L, 0, S) @ 2.
	gen(N, L) :- N =< 0 | L = nil. gen(N, L) :- N > 0 | L = cons(N, T), M := N - 1, gen(M, T).
	sum(nil, A, S) :- S := A. sum(cons(X, T), A, S) :- B := A + X, sum(T, B, S).
	meet(X, Y) :- left(X) @ 1, right(Y) @ 2, X = Y. left(X) :- X = f(A, B), B = A. right(Y) :- Y = f(C, D).
	ring(X, Y, Z) :- X = Y @ 1, Y = Z @ 2, Z = X, Z = g(W) @ 1, new(W) @ 2, X = g(U) @ 2. new(W) :- W = h(V), V = W.
	bad(X) :- X = a @ 1, X = b @ 2, r(X) @ 1. drop(X) :- X = f(A, B, C), copy(A, B) @ 1, copy(B, C) @ 2, A = 1. copy(X, Y) :- integer(X) | Y = X.`

// someRun is the commits of a cluster of three nodes by chance, with its goals.
func someRun(t testing.TB, r *rand.Rand, p api.Program) ([]api.Goal, []api.Commit) {
	t.Helper()
	c, e := cluster.New(p, 3, 200)
	if e != api.OK {
		t.Fatal(e)
	}
	goals := []string{"p(2)", "p(0)", "stream(S)", "meet(X, Y)", "ring(X, Y, Z)", "bad(X)", "drop(X)", "X = Y", "A = f(A, B)", "q(X)"}
	for range 1 + r.Intn(3) {
		c.Do(api.Op{Kind: api.DoSubmit, Text: goals[r.Intn(len(goals))]})
	}
	for range 20 + r.Intn(180) {
		switch r.Intn(12) {
		case 0:
			c.Do(api.Op{Kind: api.Resend, Node: r.Intn(3)})
		case 1:
			c.Do(api.Op{Kind: api.Drop, K: r.Intn(4)})
		case 2:
			c.Do(api.Op{Kind: api.DoCollect, Node: r.Intn(3)})
		case 3, 4, 5, 6:
			c.Do(api.Op{Kind: api.Deliver, K: r.Intn(1 + len(c.Pending()))})
		default:
			c.Do(api.Op{Kind: api.DoStep, Node: r.Intn(3)})
		}
	}
	return c.Submitted(), c.Commits()
}

// isRun asks for a run; the machine behind it.
func isRun(t testing.TB, p api.Program, nodes int, submitted []api.Goal, l ...api.Commit) *model.Model {
	t.Helper()
	if e, n := trace.Check(p, nodes, submitted, l...); e != api.OK || n != len(l) {
		t.Fatalf("Check: %v, %d of %d", e, n, len(l))
	}
	m, e := trace.After(p, nodes, submitted, l...)
	if e != api.OK || m == nil {
		t.Fatal("After:", e)
	}
	return m
}
