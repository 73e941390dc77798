package match_test

import (
	"fmt"
	"math"
	"slices"
	"testing"

	"purlin/api"
	"purlin/heap"
	"purlin/match"
	"purlin/syntax"
	"purlin/term"
)

// The calls have the forms that chapter 7 lists.
var (
	_ func(*heap.Heap, api.Term, api.Term) match.Tried                  = match.Head
	_ func(*heap.Heap, api.Clause, api.Term) match.Tried                = match.Clause
	_ func(*heap.Heap, api.Program, api.Term) match.Tried               = match.Try
	_ func(api.Clause, []api.Term, ...api.Name) ([]api.Term, api.Errno) = match.Body
	_ func(api.Clause) []int                                            = match.Free
	_                                                                   = match.Tried{Outcome: api.Commits, Clause: -1, Locals: []api.Term{}, Waits: []api.Name{}}
)

func name(node, number int) api.Name { return api.Name{Node: node, Number: number} }

func number(n int) api.Term { return api.Term{{Kind: api.Int, N: n}} }

func atom(s string) api.Term { return api.Term{{Kind: api.Atom, Text: s}} }

func variable(node, n int) api.Term { return api.Term{{Kind: api.Var, Var: name(node, n)}} }

func structure(s string, args ...api.Term) api.Term {
	return append(api.Term{{Kind: api.Struct, Text: s, N: len(args)}}, slices.Concat(args...)...)
}

func f(args ...api.Term) api.Term { return structure("f", args...) }

// nested is a term of so many cells: f(f(..(last)..)).
func nested(cells int, last api.Term) api.Term {
	for len(last) < cells {
		last = f(last)
	}
	return last
}

func termOf(t testing.TB, text string) api.Term {
	t.Helper()
	x, _, e, at := syntax.Term(text)
	if e != api.OK {
		t.Fatalf("%q: %v at %d", text, e, at)
	}
	return x
}

func programOf(t testing.TB, text string) api.Program {
	t.Helper()
	p, e, at := syntax.Program(text)
	if e != api.OK {
		t.Fatalf("%q: %v at %d", text, e, at)
	}
	return p
}

// heapOf binds each variable to the term that stands behind it, as texts: ?0_1, f(a), ?0_2, ?0_1.
func heapOf(t testing.TB, texts ...string) *heap.Heap {
	t.Helper()
	h := heap.New()
	for i := 0; i < len(texts); i += 2 {
		if e := h.Bind(termOf(t, texts[i])[0].Var, termOf(t, texts[i+1])); e != api.OK {
			t.Fatalf("Bind(%s, %s): %v", texts[i], texts[i+1], e)
		}
	}
	return h
}

func sameAll(a, b []api.Term) bool { return slices.EqualFunc(a, b, term.Equal) }

func same(a, b match.Tried) bool {
	return a.Outcome == b.Outcome && a.Clause == b.Clause && sameAll(a.Locals, b.Locals) && slices.Equal(a.Waits, b.Waits)
}

func fails() match.Tried { return match.Tried{Outcome: api.Fails, Clause: -1} }

func commits(clause int, locals ...api.Term) match.Tried {
	return match.Tried{Outcome: api.Commits, Clause: clause, Locals: locals}
}

func waits(l ...api.Name) match.Tried {
	return match.Tried{Outcome: api.Suspends, Clause: -1, Waits: l}
}

// values is a map for goals: ?0_1 and ?0_2 have no value.
func values(t testing.TB) *heap.Heap {
	return heapOf(t, "?1_0", "f(?0_1)", "?1_1", "?1_0", "?1_2", "7", "?1_3", "a", "?2_0", "?0_1", "?2_1", "?0_2", "?2_2", "f(?1_2)", "?2_3", "f(?2_3)")
}

// TestExamples are those of chapter 7.
func TestExamples(t *testing.T) {
	head := termOf(t, "f(X, a)")
	y := name(0, 1)
	if got := match.Head(heap.New(), head, f(number(1), variable(0, 1))); !same(got, waits(y)) {
		t.Error("f(1, Y):", got)
	}
	if got := match.Head(heap.New(), head, f(number(1), atom("b"))); !same(got, fails()) {
		t.Error("f(1, b):", got)
	}
	if got := match.Head(heap.New(), head, f(number(1), atom("a"))); !same(got, commits(-1, number(1))) {
		t.Error("f(1, a):", got)
	}
	p := programOf(t, "p(X) :- X > 0 | q. q.")
	if got := match.Clause(heap.New(), p[0], termOf(t, "p(?0_1)")); !same(got, waits(y)) {
		t.Error("p(Z):", got)
	}
	if got := match.Clause(heap.New(), p[0], termOf(t, "p(0)")); !same(got, fails()) {
		t.Error("p(0):", got)
	}
	if got := match.Try(heap.New(), p, termOf(t, "p(?0_1)")); !same(got, waits(y)) {
		t.Error("p(Z):", got)
	}
}

func TestHead(t *testing.T) {
	v1, v2 := name(0, 1), name(0, 2)
	for _, c := range []struct {
		head, goal string
		want       match.Tried
	}{
		{"a", "a", commits(-1)}, {"a", "b", fails()}, {"a", "a(1)", fails()}, {"a(X)", "a", fails()}, {"a", "1", fails()},
		{"p(X)", "q(1)", fails()}, {"p(X)", "p(1, 2)", fails()}, {"p(X)", "p(1)", commits(-1, number(1))},
		{"p(X, Y)", "p(?0_1, f(?1_2))", commits(-1, variable(0, 1), termOf(t, "f(?1_2)"))},
		// As it stands, not followed; and parts of what was followed, as they stand there.
		{"p(X)", "p(?1_1)", commits(-1, variable(1, 1))}, {"p(f(X))", "p(?1_1)", commits(-1, variable(0, 1))},
		{"p(f(X))", "p(?2_2)", commits(-1, variable(1, 2))}, {"p(f(f(f(X))))", "p(?2_3)", commits(-1, variable(2, 3))},
		{"p(7)", "p(?1_2)", commits(-1)}, {"p(8)", "p(?1_2)", fails()}, {"p(a)", "p(?1_3)", commits(-1)}, {"p(b)", "p(?1_3)", fails()},
		{"p(7)", "p(a)", fails()}, {"p(a)", "p(7)", fails()}, {"p(a)", "p(a(1))", fails()}, {"p(a(X))", "p(a)", fails()},
		{"p(f(X))", "p(?1_2)", fails()}, {"p(f(X))", "p(g(1))", fails()}, {"p(f(X))", "p(f(1, 2))", fails()},
		{"p(a)", "p(?0_1)", waits(v1)}, {"p(7)", "p(?2_0)", waits(v1)}, {"p(f(X))", "p(?2_0)", waits(v1)},
		{"p(a, b)", "p(?0_2, ?0_1)", waits(v2, v1)}, {"p(a, b, c)", "p(?0_2, ?0_1, ?2_1)", waits(v2, v1)},
		{"p(f(a), b)", "p(f(?2_1), ?2_0)", waits(v2, v1)}, {"p(f(7), X)", "p(?1_0, ?0_2)", waits(v1)},
		// One part fails, ahead of one that waits or behind it.
		{"p(a, b)", "p(?0_1, c)", fails()}, {"p(a, b)", "p(c, ?0_1)", fails()}, {"p(f(a, b))", "p(f(?0_1, 1))", fails()},
		// A variable that stands twice; but what is below a pattern that waits takes nothing.
		{"p(X, X)", "p(1, 1)", fails()}, {"p(X, X)", "p(?0_1, ?0_1)", fails()}, {"p(X, f(X))", "p(1, f(1))", fails()},
		{"p(X, a, X)", "p(1, ?0_1, 1)", fails()}, {"p(f(X, X))", "p(f(1, 1))", fails()},
		{"p(f(X), X)", "p(?0_1, 1)", waits(v1)}, {"p(X, f(X))", "p(1, ?0_2)", waits(v2)}, {"p(f(X, X))", "p(?0_2)", waits(v2)},
		// A global variable as a pattern.
		{"p(?0_1)", "p(?0_1)", fails()}, {"p(?0_1)", "p(1)", fails()}, {"p(a, ?1_3)", "p(?0_1, a)", fails()},
		{"p(f(?0_1))", "p(f(1))", fails()}, {"p(f(?0_1))", "p(?0_1)", waits(v1)},
		// Signs have names too.
		{"X = Y", "a = ?0_1", commits(-1, atom("a"), variable(0, 1))}, {"X = Y", "a + b", fails()}, {"X - 1", "3 - 1", commits(-1, number(3))},
		// What has no name.
		{"X", "a", fails()}, {"X", "f(1)", fails()}, {"1", "a", fails()}, {"?0_1", "a", fails()}, {"1", "1", fails()},
		// The goal, followed.
		{"f(X)", "?1_1", commits(-1, variable(0, 1))}, {"a", "?1_3", commits(-1)}, {"f(7)", "?2_2", commits(-1)},
		{"f(X)", "?1_2", fails()}, {"f(X)", "?0_1", waits(v1)}, {"f(X)", "?2_0", waits(v1)}, {"X", "?2_0", waits(v1)},
		{"1", "?0_2", waits(v2)}, {"f(X, X)", "?0_1", waits(v1)}, {"f(?0_1)", "?0_1", waits(v1)},
		// Not global.
		{"f(X)", "f(Y)", fails()}, {"X", "Y", fails()}, {"f(a)", "f(X)", fails()}, {"f(a)", "X", fails()}, {"f(X, Y)", "f(?0_1, Y)", fails()},
	} {
		if got := match.Head(values(t), termOf(t, c.head), termOf(t, c.goal)); !same(got, c.want) {
			t.Errorf("Head(%s, %s): %v, want %v", c.head, c.goal, got, c.want)
		}
	}
}

// TestNilHeap: without values.
func TestNilHeap(t *testing.T) {
	p := programOf(t, "p(f(X)) :- X > 0 | true.")
	for goal, want := range map[string]match.Tried{
		"p(f(1))": commits(0, number(1)), "p(f(0))": fails(), "p(f(?1_2))": waits(name(1, 2)), "p(?1_0)": waits(name(1, 0)),
		"?2_2": waits(name(2, 2)), "1": fails(), "q": fails(),
	} {
		if got := match.Try(nil, p, termOf(t, goal)); !same(got, want) {
			t.Errorf("Try(%s): %v, want %v", goal, got, want)
		}
		want.Clause = -1
		if got := match.Clause(nil, p[0], termOf(t, goal)); !same(got, want) {
			t.Errorf("Clause(%s): %v, want %v", goal, got, want)
		}
	}
	if got := match.Head(nil, termOf(t, "p(a)"), termOf(t, "p(?1_3)")); !same(got, waits(name(1, 3))) {
		t.Error("Head:", got)
	}
}

// TestRoomOfHeads: a head alone has as many locals as its greatest number, and 1, those below 2^20.
func TestRoomOfHeads(t *testing.T) {
	const most = 1 << 20
	got := match.Head(nil, f(variable(-1, 3), variable(-1, 1)), f(number(5), atom("a")))
	if !same(got, commits(-1, nil, atom("a"), nil, number(5))) {
		t.Error("numbers 3 and 1:", got)
	}
	for _, n := range []int{api.MaxLocals - 1, api.MaxLocals, 100, most - 1} {
		got := match.Head(nil, f(variable(-1, n)), f(number(5)))
		if got.Outcome != api.Commits || len(got.Locals) != n+1 || !term.Equal(got.Locals[n], number(5)) || len(got.Locals[0]) != 0 {
			t.Errorf("number %d: %v, %d locals", n, got.Outcome, len(got.Locals))
		}
	}
	for _, n := range []int{most, most + 1, math.MaxInt} {
		for _, head := range []api.Term{f(variable(-1, n)), f(variable(-1, 0), variable(-1, n)), f(f(variable(-1, n)), atom("a"))} {
			goal := f(slices.Repeat([]api.Term{f(number(1))}, head[0].N)...)
			if got := match.Head(nil, head, goal); !same(got, fails()) {
				t.Errorf("number %d: %v", n, got.Outcome)
			}
		}
		if got := match.Head(nil, f(atom("a"), variable(-1, n)), f(variable(0, 0), number(1))); !same(got, fails()) {
			t.Errorf("number %d beside a part that waits: %v", n, got.Outcome)
		}
		if got := match.Head(nil, f(f(variable(-1, n))), f(variable(0, 0))); !same(got, waits(name(0, 0))) {
			t.Errorf("number %d below a part that waits: %v", n, got.Outcome)
		}
		if got := match.Head(nil, f(variable(-1, n)), variable(0, 0)); !same(got, waits(name(0, 0))) {
			t.Errorf("number %d for a variable: %v", n, got.Outcome)
		}
	}
}

// TestRoomOfClauses: a clause has as many locals as it says, from 0 to MaxLocals.
func TestRoomOfClauses(t *testing.T) {
	for _, c := range []struct {
		says, room int
	}{{math.MinInt, 0}, {-1, 0}, {0, 0}, {1, 1}, {7, 7}, {api.MaxLocals, api.MaxLocals}, {api.MaxLocals + 1, api.MaxLocals}, {math.MaxInt, api.MaxLocals}} {
		if got := match.Clause(nil, api.Clause{Head: atom("a"), Locals: c.says}, atom("a")); !same(got, commits(-1, make([]api.Term, c.room)...)) {
			t.Errorf("Locals %d: %v", c.says, got)
		}
		for n := range api.MaxLocals + 3 {
			clause := api.Clause{Head: f(variable(-1, n)), Locals: c.says}
			want := fails()
			if n < c.room {
				want = commits(-1, make([]api.Term, c.room)...)
				want.Locals[n] = atom("b")
			}
			if got := match.Clause(nil, clause, f(atom("b"))); !same(got, want) {
				t.Errorf("Locals %d, number %d: %v, want %v", c.says, n, got, want)
			}
			want.Clause = -1
			if n < c.room {
				want.Clause = 1
			}
			if got := match.Try(nil, api.Program{{Head: f(atom("c"))}, clause}, f(atom("b"))); !same(got, want) {
				t.Errorf("Try: Locals %d, number %d: %v, want %v", c.says, n, got, want)
			}
			clause.Head = f(f(variable(-1, n)), atom("a"))
			if got := match.Clause(nil, clause, f(variable(0, 0), atom("a"))); !same(got, waits(name(0, 0))) {
				t.Errorf("Locals %d, number %d below a part that waits: %v", c.says, n, got)
			}
		}
	}
}

func TestClauseAsksGuards(t *testing.T) {
	v1, v2 := name(0, 1), name(0, 2)
	for _, c := range []struct {
		clause, goal string
		want         match.Tried
	}{
		{"p(X) :- X > 0 | true.", "p(1)", commits(-1, number(1))}, {"p(X) :- X > 0 | true.", "p(?1_2)", commits(-1, variable(1, 2))},
		{"p(X) :- X > 7 | true.", "p(?1_2)", fails()}, {"p(X) :- X > 0 | true.", "p(a)", fails()}, {"p(X) :- X > 0 | true.", "p(?2_0)", waits(v1)},
		{"p(X, Y) :- X < Y | true.", "p(?0_2, ?0_1)", waits(v2, v1)}, {"p(X, Y) :- X < Y | true.", "p(?0_2, ?2_1)", waits(v2)},
		// All guards are asked: one that fails behind one that waits, or ahead of it.
		{"p(X, Y) :- X > 0, Y > 0 | true.", "p(?0_1, 0)", fails()}, {"p(X, Y) :- X > 0, Y > 0 | true.", "p(0, ?0_1)", fails()},
		{"p(X, Y) :- X > 0, Y > 0, X > 1 | true.", "p(?0_2, ?0_1)", waits(v2, v1)}, {"p(X, Y) :- X > 0, Y > 0 | true.", "p(?0_2, 1)", waits(v2)},
		{"p(X, Y) :- X > 0, Y > 0 | true.", "p(1, 2)", commits(-1, number(1), number(2))},
		{"p(X) :- compound(X) | true.", "p(?1_0)", commits(-1, variable(1, 0))}, {"p(X) :- equal(X, X) | true.", "p(?0_1)", waits(v1)},
		// Guards are asked only when the head commits.
		{"p(X, a) :- X > 0 | true.", "p(?0_2, ?0_1)", waits(v1)}, {"p(X, a) :- X > 0 | true.", "p(0, ?0_1)", waits(v1)}, {"p(X, a) :- X > 0 | true.", "p(1, b)", fails()},
		// A body plays no part; nor do variables that the head has not.
		{"p(X) :- q(Y, Z).", "p(1)", commits(-1, number(1), nil, nil)}, {"p(X) :- X > 0 | q(Y).", "p(1)", commits(-1, number(1), nil)},
		// A guard with a variable without a term, a global one, or none at all.
		{"p(X) :- Y > 0 | true.", "p(1)", fails()}, {"p(X) :- known(Y), X > 0 | true.", "p(?0_1)", fails()}, {"p(X) :- ?1_2 > X | true.", "p(1)", commits(-1, number(1))},
		{"p(X) :- ?0_2 > X | true.", "p(?0_1)", waits(v2, v1)}, {"p(X) :- q(X) | true.", "p(1)", fails()}, {"p(X) :- true | true.", "p(1)", commits(-1, number(1))},
		{"p(X) :- X > 0 | true.", "?0_1", waits(v1)}, {"p(X) :- X > 0 | true.", "p(Y)", fails()}, {"p(X) :- X > 0 | true.", "3", fails()},
	} {
		clause := programOf(t, c.clause)[0]
		if got := match.Clause(values(t), clause, termOf(t, c.goal)); !same(got, c.want) {
			t.Errorf("Clause(%s, %s): %v, want %v", c.clause, c.goal, got, c.want)
		}
	}
}

// TestGuardTooLong: a guard that is too long with its locals fails, though it would hold.
func TestGuardTooLong(t *testing.T) {
	for _, c := range []struct {
		cells int
		want  api.Outcome
	}{{api.MaxCells - 2, api.Commits}, {api.MaxCells - 1, api.Fails}} {
		clause := api.Clause{Head: structure("p", variable(-1, 0)), Guards: []api.Term{structure("unlike", variable(-1, 0), number(1))}, Locals: 1}
		if got := match.Clause(nil, clause, structure("p", nested(c.cells, number(1)))); got.Outcome != c.want {
			t.Errorf("%d cells: %v", c.cells, got.Outcome)
		}
	}
}

func TestTry(t *testing.T) {
	p := programOf(t, `p(a, X) :- true | q(X). p(b, X) :- X > 0 | q(Y). p(f(Y), X) :- X > 10 | true. p(X, 3). q(X). p(X) :- X > 0 | true. a. p(b, 5).`)
	v1, v2 := name(0, 1), name(0, 2)
	for goal, want := range map[string]match.Tried{
		"p(a, 1)": commits(0, number(1)), "p(b, 1)": commits(1, number(1), nil), "p(f(1), 11)": commits(2, number(1), number(11)),
		"p(f(1), 3)": commits(3, termOf(t, "f(1)")), "q(7)": commits(4, number(7)), "p(1)": commits(5, number(1)), "a": commits(6),
		"p(b, -5)": fails(), "p(c, 4)": fails(), "p": fails(), "b": fails(), "p(1, 2, 3)": fails(), "p(0)": fails(), "a(1)": fails(), "7": fails(),
		// The first that commits, though one ahead of it waits; none behind it is looked at.
		"p(?0_1, 3)": commits(3, variable(0, 1)), "p(a, ?0_1)": commits(0, variable(0, 1)), "p(?1_3, ?0_1)": commits(0, variable(0, 1)),
		// All that wait, each variable once, as they come: heads first, guards among them.
		"p(?0_1, 4)": waits(v1), "p(?0_2, ?0_1)": waits(v2, v1), "p(b, ?0_1)": waits(v1), "p(c, ?2_1)": waits(v2), "p(f(a), ?0_1)": waits(v1),
		"p(?2_0, ?2_1)": waits(v1, v2), "p(?0_2)": waits(v2), "?0_1": waits(v1), "?2_1": waits(v2), "?1_3": commits(6), "?1_2": fails(), "X": fails(), "p(X, 1)": fails(),
	} {
		if got := match.Try(values(t), p, termOf(t, goal)); !same(got, want) {
			t.Errorf("Try(%s): %v, want %v", goal, got, want)
		}
	}
	for _, none := range []api.Program{nil, {}, programOf(t, "r(1).")} {
		for goal, want := range map[string]match.Tried{"a": fails(), "p(1, 2)": fails(), "1": fails(), "?0_1": waits(v1), "?2_0": waits(v1)} {
			if got := match.Try(values(t), none, termOf(t, goal)); !same(got, want) {
				t.Errorf("Try of no clause (%s): %v, want %v", goal, got, want)
			}
		}
	}
}

// TestTryManyClauses: more than a right program has.
func TestTryManyClauses(t *testing.T) {
	var p api.Program
	var all []api.Name
	var args []api.Term
	for i := range 8 {
		all = append(all, name(0, i))
		args = append(args, variable(0, i))
	}
	for i := range 400 {
		l := make([]api.Term, 8)
		for j := range l {
			l[j] = variable(-1, j)
		}
		l[i%8] = number(i)
		p = append(p, api.Clause{Head: f(l...), Locals: 8})
	}
	if got := match.Try(nil, p, f(args...)); !same(got, waits(all...)) {
		t.Error(got)
	}
	args[399%8] = number(399)
	if got := match.Try(nil, p, f(args...)); got.Outcome != api.Commits || got.Clause != 399 {
		t.Error(got)
	}
}

// notRight are rows of cells that are no terms.
func notRight() []api.Term {
	return []api.Term{
		nil, {}, {{}}, {{Kind: 9, N: 1}}, number(api.MaxNumber + 1), number(math.MinInt), atom(""), atom("A"), atom("="),
		{{Kind: api.Atom, Text: "a", N: 1}}, {{Kind: api.Int, N: 1, Var: name(0, 1)}}, variable(-2, 0), variable(api.MaxNodes, 0),
		variable(0, -1), variable(-1, -1), {{Kind: api.Var, Text: "x", Var: name(3, 3)}}, f(), f(number(1))[:1], append(f(number(1)), number(2)...),
		append(number(1), number(1)...), nested(api.MaxCells+1, number(1)), f(slices.Repeat([]api.Term{number(1)}, api.MaxArity+1)...),
		f(variable(-1, math.MinInt)), f(variable(-1, 0), variable(-2, 0)), append(atom("a"), atom("a")...), {{Kind: api.Struct, Text: "f", N: math.MaxInt}},
		{{Kind: api.Struct, Text: "f", N: math.MinInt}}, {{Kind: api.Struct, Text: "=", N: 1}, {Kind: api.Int}},
	}
}

func TestWrongTermsFail(t *testing.T) {
	h := values(t)
	goals := []api.Term{atom("a"), f(number(1)), variable(0, 1), variable(2, 0), variable(1, 0), number(1)}
	for _, x := range notRight() {
		for _, goal := range append(goals, x) {
			clause := api.Clause{Head: x, Guards: []api.Term{atom("true")}, Locals: 2}
			if got := match.Head(h, x, goal); !same(got, fails()) {
				t.Errorf("Head(%v, %v): %v", x, goal, got)
			}
			if got := match.Clause(h, clause, goal); !same(got, fails()) {
				t.Errorf("Clause(%v, %v): %v", x, goal, got)
			}
			guarded := api.Clause{Head: f(variable(-1, 0)), Guards: []api.Term{atom("true"), x}, Locals: 2}
			if got := match.Clause(h, guarded, goal); !same(got, fails()) {
				t.Errorf("Clause with the guard %v, %v: %v", x, goal, got)
			}
			guarded.Head = f(atom("a"))
			if got := match.Clause(h, guarded, f(variable(0, 1))); !same(got, fails()) {
				t.Errorf("Clause whose head waits, with the guard %v: %v", x, got)
			}
		}
		for _, head := range []api.Term{f(variable(-1, 0)), atom("a"), variable(-1, 0), number(1)} {
			if got := match.Head(h, head, x); !same(got, fails()) {
				t.Errorf("Head(%v, %v): %v", head, x, got)
			}
			if got := match.Try(h, api.Program{{Head: head, Locals: 1}}, x); !same(got, fails()) {
				t.Errorf("Try(%v, %v): %v", head, x, got)
			}
		}
	}
}

// TestTryPassesWrongClauses: clauses that are wrong fail; those beside them go on.
func TestTryPassesWrongClauses(t *testing.T) {
	right := api.Clause{Head: f(variable(-1, 0)), Locals: 1}
	for _, x := range notRight() {
		p := api.Program{{Head: x, Locals: 1}, {Head: f(variable(-1, 0)), Guards: []api.Term{x}, Locals: 1}, right}
		if got := match.Try(nil, p, f(number(1))); !same(got, commits(2, number(1))) {
			t.Errorf("beside %v: %v", x, got)
		}
		if got := match.Try(nil, p[:2], f(number(1))); !same(got, fails()) {
			t.Errorf("%v alone: %v", x, got)
		}
		if got := match.Try(nil, p[:2], variable(0, 0)); !same(got, waits(name(0, 0))) {
			t.Errorf("%v, a variable: %v", x, got)
		}
	}
}

func TestDeepTerms(t *testing.T) {
	head, goal := nested(api.MaxCells, variable(-1, 0)), nested(api.MaxCells, number(4))
	if got := match.Head(nil, head, goal); !same(got, commits(-1, number(4))) {
		t.Error("deep:", got)
	}
	h := heap.New()
	h.Bind(name(0, 0), f(variable(0, 0)))
	if got := match.Head(h, head, variable(0, 0)); !same(got, commits(-1, variable(0, 0))) {
		t.Error("round:", got)
	}
	if got := match.Head(h, nested(api.MaxCells, number(1)), variable(0, 0)); !same(got, fails()) {
		t.Error("round, fails:", got)
	}
	wide := f(slices.Repeat([]api.Term{nested(31, atom("a"))}, 8)...)
	if got := match.Head(h, wide, wide); !same(got, commits(-1)) {
		t.Error("wide:", got)
	}
}

func TestFree(t *testing.T) {
	for _, c := range []struct {
		clause api.Clause
		want   []int
	}{
		{api.Clause{}, nil}, {programOf(t, "p(X) :- q(X, Y, Z). ")[0], []int{1, 2}}, {programOf(t, "p(X, f(Y)) :- q(X, Y).")[0], nil},
		{programOf(t, "p :- q(X, Y).")[0], []int{0, 1}}, {programOf(t, "p(f(1, g(X), a)) :- r(Y).")[0], []int{1}},
		{api.Clause{Head: f(variable(-1, 2), variable(-1, 2), variable(-1, 4)), Locals: 6}, []int{0, 1, 3, 5}},
		{api.Clause{Head: f(variable(-1, 2)), Locals: 2}, []int{0, 1}}, {api.Clause{Head: f(variable(0, 1)), Locals: 2}, []int{0, 1}},
		{api.Clause{Head: atom("a"), Locals: -1}, nil}, {api.Clause{Head: atom("a"), Locals: math.MinInt}, nil},
		{api.Clause{Head: f(variable(-1, 0)), Locals: api.MaxLocals + 5}, []int{1, 2, 3, 4, 5, 6, 7, 8, 9, 10, 11, 12, 13, 14, 15}},
		{api.Clause{Head: f(variable(-1, 16)), Locals: math.MaxInt}, []int{0, 1, 2, 3, 4, 5, 6, 7, 8, 9, 10, 11, 12, 13, 14, 15}},
		{api.Clause{Head: append(variable(-1, 1), variable(-1, 0)...), Locals: 3}, []int{2}}, {api.Clause{Head: nil, Locals: 1}, []int{0}},
		{api.Clause{Guards: []api.Term{variable(-1, 0)}, Body: []api.Term{variable(-1, 1)}, Locals: 2}, []int{0, 1}},
	} {
		if got := match.Free(c.clause); !slices.Equal(got, c.want) {
			t.Errorf("Free(%v): %v, want %v", c.clause, got, c.want)
		}
	}
}

func TestBody(t *testing.T) {
	c := programOf(t, "p(X, Y) :- X > 0 | q(X, Z), U = f(Z, Y), r(?1_7) @ 2, true.")[0]
	n, v := number(7), variable(2, 5)
	x, y := name(1, 4), name(1, 9)
	want := []api.Term{termOf(t, "q(7, ?1_4)"), termOf(t, "?1_9 = f(?1_4, ?2_5)"), termOf(t, "r(?1_7) @ 2"), atom("true")}
	for _, locals := range [][]api.Term{
		{n, v}, {n, v, nil, nil}, {n, v, number(1), number(2)}, {n, v, {{Kind: 9}}, {{}}}, {n, v, nil, nil, {{Kind: 9}}, number(3)},
	} {
		if got, e := match.Body(c, locals, x, y); e != api.OK || !sameAll(got, want) {
			t.Errorf("Body(%v): %v, %v", locals, got, e)
		}
	}
	for _, fresh := range [][]api.Name{nil, {}, {x}, {x, y, x}, {x, y, x, y, x}} {
		for _, locals := range [][]api.Term{{n, v}, nil, {{{Kind: 9}}}} {
			if got, e := match.Body(c, locals, fresh...); e != api.ErrNone || len(got) != 0 {
				t.Errorf("Body(%v) with %v: %v, %v", locals, fresh, got, e)
			}
		}
	}
}

func TestBodyErrors(t *testing.T) {
	x := name(1, 4)
	c := programOf(t, "p(X, Y) :- q(X), r(Z), s(Y).")[0]
	wrong := c
	wrong.Body = append(slices.Clone(c.Body), f())
	long := programOf(t, "p(X, Y) :- q(X), r(X, X), s(Y, Z).")[0]
	big := nested(api.MaxCells-1, number(1))
	for _, k := range []struct {
		clause api.Clause
		locals []api.Term
		fresh  api.Name
		want   api.Errno
	}{
		{c, []api.Term{number(1), number(2)}, x, api.OK}, {c, nil, x, api.ErrNone}, {c, []api.Term{number(1)}, x, api.ErrNone}, {c, []api.Term{nil, number(2)}, x, api.ErrNone},
		{c, []api.Term{number(1), {{Kind: 9}}}, x, api.ErrForm}, {c, []api.Term{{{}}, nil}, x, api.ErrForm}, {wrong, []api.Term{number(1), number(2)}, x, api.ErrForm},
		{wrong, []api.Term{number(1)}, x, api.ErrNone}, {c, []api.Term{number(1), number(2)}, name(-2, 0), api.ErrNone}, {c, []api.Term{number(1), number(2)}, name(0, -1), api.ErrNone},
		{c, []api.Term{number(1), number(2)}, name(api.MaxNodes, 0), api.ErrNone}, {c, []api.Term{number(1), number(2)}, name(-1, 5), api.OK},
		{long, []api.Term{big, number(1)}, x, api.ErrLong}, {long, []api.Term{big, nil}, x, api.ErrLong}, {long, []api.Term{number(1), big}, x, api.ErrLong},
		{long, []api.Term{nil, big}, x, api.ErrNone}, {long, []api.Term{big, {{}}}, x, api.ErrForm}, {long, []api.Term{number(1), nested(api.MaxCells-2, number(1))}, x, api.OK},
	} {
		got, e := match.Body(k.clause, k.locals, k.fresh)
		if e != k.want || e != api.OK && len(got) != 0 || e == api.OK && len(got) != len(k.clause.Body) {
			t.Errorf("Body(%v, %v, %v): %v, %v; want %v", k.clause, k.locals, k.fresh, got, e, k.want)
		}
	}
	// Without goals nothing is put in.
	if got, e := match.Body(api.Clause{Head: f(variable(-1, 0)), Locals: 1}, []api.Term{{{Kind: 9}}}); e != api.OK || len(got) != 0 {
		t.Error("no goals:", got, e)
	}
}

// TestBodyLocals: a clause has as many as it says, from 0 to MaxLocals; those beyond play no part.
func TestBodyLocals(t *testing.T) {
	for _, c := range []struct{ says, room int }{{-7, 0}, {0, 0}, {1, 1}, {5, 5}, {api.MaxLocals, 16}, {api.MaxLocals + 3, 16}, {math.MaxInt, 16}} {
		locals := slices.Repeat([]api.Term{number(3)}, api.MaxLocals+8)
		for i := c.room; i < len(locals); i += 2 {
			locals[i] = api.Term{{Kind: 9}}
		}
		var fresh []api.Name
		for i := range c.room {
			fresh = append(fresh, name(2, i))
		}
		for n := range api.MaxLocals + 4 {
			got, e := match.Body(api.Clause{Head: atom("a"), Body: []api.Term{f(variable(-1, n))}, Locals: c.says}, locals, fresh...)
			if n < c.room && (e != api.OK || !sameAll(got, []api.Term{f(variable(2, n))})) || n >= c.room && (e != api.ErrNone || len(got) != 0) {
				t.Errorf("Locals %d, number %d: %v, %v", c.says, n, got, e)
			}
		}
	}
}

// TestHugeBodies: more goals and guards than a right clause has.
func TestHugeBodies(t *testing.T) {
	c := api.Clause{Head: f(variable(-1, 0)), Guards: slices.Repeat([]api.Term{structure(">", variable(-1, 0), number(0))}, 50), Body: slices.Repeat([]api.Term{f(variable(-1, 0))}, 50), Locals: 1}
	if got := match.Clause(nil, c, f(number(1))); !same(got, commits(-1, number(1))) {
		t.Error(got)
	}
	c.Guards = append(c.Guards, structure("<", variable(-1, 0), number(1)))
	if got := match.Clause(nil, c, f(number(1))); !same(got, fails()) {
		t.Error(got)
	}
	if got, e := match.Body(c, []api.Term{number(1)}); e != api.OK || len(got) != 50 || fmt.Sprint(got[0]) != fmt.Sprint(got[49]) {
		t.Error(got, e)
	}
}
