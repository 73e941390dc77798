package unify_test

import (
	"math"
	"slices"
	"testing"

	"purlin/api"
	"purlin/heap"
	"purlin/syntax"
	"purlin/term"
	"purlin/unify"
)

// The calls have the forms that chapter 8 lists.
var (
	_ func(*heap.Heap, api.Term, api.Term) unify.Result = unify.Step
	_ func(api.Term) (a, b api.Term, ok bool)           = unify.Equation
	_ func(*heap.Heap, int, ...api.Term) unify.Solved   = unify.Solve
	_                                                   = unify.Result{Kind: unify.Done, Var: api.Name{}, Term: api.Term{}, Parts: []api.Term{}}
	_                                                   = unify.Solved{Outcome: api.Fails, Bound: []api.Binding{}, Left: []api.Term{}, Steps: 0}
	_                                                   = [...]struct{}{unify.Done - 1: {}, unify.Binds - 1: {}, unify.Parted - 1: {}, unify.Clash - 1: {}}
)

func name(node, number int) api.Name { return api.Name{Node: node, Number: number} }

func number(n int) api.Term { return api.Term{{Kind: api.Int, N: n}} }

func atom(s string) api.Term { return api.Term{{Kind: api.Atom, Text: s}} }

func variable(node, n int) api.Term { return api.Term{{Kind: api.Var, Var: name(node, n)}} }

func structure(s string, args ...api.Term) api.Term {
	return append(api.Term{{Kind: api.Struct, Text: s, N: len(args)}}, slices.Concat(args...)...)
}

func f(args ...api.Term) api.Term { return structure("f", args...) }

// nested is a term of so many cells: f(f(..(last)..)).
func nested(cells int, last api.Term) api.Term {
	return slices.Concat(slices.Repeat(f(nil), max(0, cells-len(last))), last)
}

func termOf(t testing.TB, text string) api.Term {
	t.Helper()
	x, _, e, at := syntax.Term(text)
	if e != api.OK {
		t.Fatalf("%q: %v at %d", text, e, at)
	}
	return x
}

func termsOf(t testing.TB, texts ...string) []api.Term {
	t.Helper()
	var l []api.Term
	for _, text := range texts {
		l = append(l, termOf(t, text))
	}
	return l
}

// bindingsOf are variables, each with the term that stands behind it, as texts: ?0_1, f(a), ?0_2, ?0_1.
func bindingsOf(t testing.TB, texts ...string) []api.Binding {
	t.Helper()
	var l []api.Binding
	for i := 0; i < len(texts); i += 2 {
		l = append(l, api.Binding{Var: termOf(t, texts[i])[0].Var, Term: termOf(t, texts[i+1])})
	}
	return l
}

func heapOf(t testing.TB, texts ...string) *heap.Heap {
	t.Helper()
	h := heap.New()
	for _, b := range bindingsOf(t, texts...) {
		if e := h.Bind(b.Var, b.Term); e != api.OK {
			t.Fatalf("Bind(%v): %v", b, e)
		}
	}
	return h
}

func sameAll(a, b []api.Term) bool { return slices.EqualFunc(a, b, term.Equal) }

func sameBinding(a, b api.Binding) bool { return a.Var == b.Var && term.Equal(a.Term, b.Term) }

func sameStep(a, b unify.Result) bool {
	return a.Kind == b.Kind && a.Var == b.Var && term.Equal(a.Term, b.Term) && sameAll(a.Parts, b.Parts)
}

func sameSolved(a, b unify.Solved) bool {
	return a.Outcome == b.Outcome && a.Steps == b.Steps && slices.EqualFunc(a.Bound, b.Bound, sameBinding) && sameAll(a.Left, b.Left)
}

func done() unify.Result { return unify.Result{Kind: unify.Done} }

func clash() unify.Result { return unify.Result{Kind: unify.Clash} }

func binds(v api.Name, t api.Term) unify.Result {
	return unify.Result{Kind: unify.Binds, Var: v, Term: t}
}

func parted(l ...api.Term) unify.Result { return unify.Result{Kind: unify.Parted, Parts: l} }

func TestKinds(t *testing.T) {
	if unify.Done != 1 || unify.Binds != 2 || unify.Parted != 3 || unify.Clash != 4 {
		t.Error(unify.Done, unify.Binds, unify.Parted, unify.Clash)
	}
}

// TestExamples are those of chapter 8.
func TestExamples(t *testing.T) {
	a, b := termOf(t, "f(?0_0, b)"), termOf(t, "f(a, ?0_1)")
	if r := unify.Step(heap.New(), a, b); !sameStep(r, parted(termsOf(t, "?0_0 = a", "b = ?0_1")...)) {
		t.Error("f(X, b) = f(a, Y):", r)
	}
	s := unify.Solve(heap.New(), 10, termOf(t, "f(?0_0, b) = f(a, ?0_1)"))
	if !sameSolved(s, unify.Solved{Outcome: api.Commits, Bound: bindingsOf(t, "?0_0", "a", "?0_1", "b"), Steps: 3}) {
		t.Error("Solve:", s)
	}
	if r := unify.Step(heap.New(), variable(0, 0), variable(0, 0)); !sameStep(r, done()) {
		t.Error("X = X:", r)
	}
	if r := unify.Step(heap.New(), termOf(t, "f(?0_0)"), termOf(t, "g(?0_0)")); !sameStep(r, clash()) {
		t.Error("f(X) = g(X):", r)
	}
	if r := unify.Step(heap.New(), variable(0, 0), f(variable(0, 0))); !sameStep(r, binds(name(0, 0), f(variable(0, 0)))) {
		t.Error("X = f(X):", r)
	}
	row := termsOf(t, "?0_0 = f(?0_0)", "?0_0 = f(f(?0_0))")
	bound := bindingsOf(t, "?0_0", "f(?0_0)")
	for steps, left := range map[int]string{1: "?0_0 = f(f(?0_0))", 2: "?0_0 = f(?0_0)", 3: "?0_0 = ?0_0", 4: "?0_0 = ?0_0", 1000: "?0_0 = ?0_0"} {
		want := unify.Solved{Outcome: api.Suspends, Bound: bound, Left: termsOf(t, left), Steps: steps}
		if s := unify.Solve(heap.New(), steps, row...); !sameSolved(s, want) {
			t.Errorf("%d steps: %v, want %v", steps, s, want)
		}
	}
}

// values is a map in which ?0_1 and ?0_2 have no value.
func values(t testing.TB) *heap.Heap {
	return heapOf(t, "?1_0", "f(?0_1)", "?1_1", "?1_0", "?1_2", "7", "?1_3", "a", "?2_0", "?0_1", "?2_1", "?0_2", "?2_2", "f(?1_2)", "?2_3", "?1_2")
}

func TestStep(t *testing.T) {
	v1, v2 := name(0, 1), name(0, 2)
	for _, c := range []struct {
		a, b string
		want unify.Result
	}{
		{"1", "1", done()}, {"a", "a", done()}, {"?0_1", "?0_1", done()}, {"?0_1", "?2_0", done()}, {"?2_1", "?0_2", done()}, {"?1_2", "?2_3", done()},
		{"?1_2", "7", done()}, {"a", "?1_3", done()}, {"-3", "-3", done()},
		{"1", "2", clash()}, {"1", "-1", clash()}, {"a", "b", clash()}, {"a", "1", clash()}, {"a", "a(1)", clash()}, {"f(1)", "1", clash()}, {"f(1)", "f", clash()},
		{"f(1)", "g(1)", clash()}, {"f(1)", "f(1, 1)", clash()}, {"?1_2", "a", clash()}, {"?1_0", "7", clash()}, {"?1_3", "?1_2", clash()}, {"1 + 2", "1 - 2", clash()},
		// Of two variables the greater binds, whichever way round, by what they lead to.
		{"?0_1", "?0_2", binds(v2, variable(0, 1))}, {"?0_2", "?0_1", binds(v2, variable(0, 1))}, {"?2_0", "?2_1", binds(v2, variable(0, 1))},
		{"?2_1", "?2_0", binds(v2, variable(0, 1))}, {"?3_0", "?0_9", binds(name(3, 0), variable(0, 9))}, {"?0_9", "?3_0", binds(name(3, 0), variable(0, 9))},
		// One variable binds to the other term as it stands.
		{"?0_1", "3", binds(v1, number(3))}, {"a", "?0_1", binds(v1, atom("a"))}, {"?0_1", "f(?1_2)", binds(v1, termOf(t, "f(?1_2)"))}, {"f(?2_0)", "?2_0", binds(v1, termOf(t, "f(?2_0)"))},
		{"?2_0", "?1_2", binds(v1, number(7))}, {"?1_1", "?0_2", binds(v2, termOf(t, "f(?0_1)"))}, {"?0_1", "?1_1", binds(v1, termOf(t, "f(?0_1)"))}, {"?3_7", "?1_3", binds(name(3, 7), atom("a"))},
		// Structures, their arguments as they stand.
		{"f(1)", "f(2)", parted(termsOf(t, "1 = 2")...)}, {"f(?1_2, a)", "f(7, ?2_0)", parted(termsOf(t, "?1_2 = 7", "a = ?2_0")...)}, {"?1_0", "?2_2", parted(termsOf(t, "?0_1 = ?1_2")...)},
		{"?1_0", "?1_1", parted(termsOf(t, "?0_1 = ?0_1")...)}, {"f(f(1), g)", "f(g(2), h)", parted(termsOf(t, "f(1) = g(2)", "g = h")...)},
		{"1 = ?0_1", "?0_2 = a", parted(termsOf(t, "1 = ?0_2", "?0_1 = a")...)}, {"p @ 1", "q @ 2", parted(termsOf(t, "p = q", "1 = 2")...)},
		// Not global.
		{"X", "X", clash()}, {"X", "1", clash()}, {"?0_1", "X", clash()}, {"f(X)", "f(X)", clash()}, {"f(X)", "?0_1", clash()}, {"1", "f(1, g(X))", clash()},
	} {
		a, b := termOf(t, c.a), termOf(t, c.b)
		if got := unify.Step(values(t), a, b); !sameStep(got, c.want) {
			t.Errorf("Step(%s, %s): %v, want %v", c.a, c.b, got, c.want)
		}
		if got, want := unify.Step(values(t), b, a), turned(c.want); !sameStep(got, want) {
			t.Errorf("Step(%s, %s): %v, want %v", c.b, c.a, got, want)
		}
	}
}

// turned is a step with each part turned about.
func turned(r unify.Result) unify.Result {
	parts := slices.Clone(r.Parts)
	for i, x := range parts {
		sides := term.Args(x)
		parts[i] = structure("=", sides[1], sides[0])
	}
	r.Parts = parts
	return r
}

func TestNilHeap(t *testing.T) {
	if r := unify.Step(nil, variable(1, 0), variable(0, 1)); !sameStep(r, binds(name(1, 0), variable(0, 1))) {
		t.Error("Step:", r)
	}
	if r := unify.Step(nil, f(variable(1, 0)), f(number(1))); !sameStep(r, parted(termOf(t, "?1_0 = 1"))) {
		t.Error("Step:", r)
	}
	want := unify.Solved{Outcome: api.Commits, Bound: bindingsOf(t, "?1_0", "a", "?0_1", "a"), Steps: 4}
	if s := unify.Solve(nil, 9, termsOf(t, "f(?1_0, ?0_1) = f(a, ?1_0)", "?0_1 = ?1_0")...); !sameSolved(s, want) {
		t.Error("Solve:", s)
	}
	if s := unify.Solve(nil, 9, termsOf(t, "?0_1 = a", "?0_1 = b")...); !sameSolved(s, unify.Solved{Outcome: api.Fails, Steps: 2}) {
		t.Error("Solve:", s)
	}
}

// TestPartsToMaxCells: an equation of more cells than a term has is a clash, though its sides are the same.
func TestPartsToMaxCells(t *testing.T) {
	for _, c := range []struct {
		left, right int
		kind        unify.Kind
	}{{127, 128, unify.Parted}, {128, 127, unify.Parted}, {128, 128, unify.Clash}, {255, 1, unify.Clash}, {254, 1, unify.Parted}, {255, 255, unify.Clash}} {
		a, b := nested(c.left, number(1)), nested(c.right, number(1))
		if r := unify.Step(nil, f(a), f(b)); r.Kind != c.kind || r.Kind == unify.Clash && !sameStep(r, clash()) || r.Kind == unify.Parted && len(r.Parts[0]) != c.left+c.right+1 {
			t.Errorf("%d and %d cells: %v", c.left, c.right, r.Kind)
		}
	}
	big := nested(128, number(1))
	for _, sides := range [][2]api.Term{{f(number(1), big), f(number(1), big)}, {f(big, number(1)), f(big, number(1))}, {f(number(2), big), f(number(1), big)}} {
		if r := unify.Step(nil, sides[0], sides[1]); !sameStep(r, clash()) {
			t.Error("a part beside one that is too long:", r.Kind)
		}
		// Each side by a variable: the equation itself would be too long.
		h := heap.New()
		h.Bind(name(0, 0), sides[0])
		h.Bind(name(0, 1), sides[1])
		if s := unify.Solve(h, 10, termsOf(t, "a = a", "?0_0 = ?0_1")...); !sameSolved(s, unify.Solved{Outcome: api.Fails, Steps: 2}) {
			t.Error("Solve:", s)
		}
	}
	// P8.3: what is solved may clash by the map that it makes, for its length alone.
	again := termsOf(t, "?0_0 = ?0_1")
	again = append(again, structure("=", variable(0, 0), f(big)))
	first := unify.Solve(nil, 10, again...)
	if first.Outcome != api.Commits || len(first.Bound) != 2 {
		t.Fatal(first)
	}
	h := heap.New()
	for _, b := range first.Bound {
		if e := h.Bind(b.Var, b.Term); e != api.OK {
			t.Fatal(e)
		}
	}
	if s := unify.Solve(h, 10, again...); !sameSolved(s, unify.Solved{Outcome: api.Fails, Steps: 1}) {
		t.Error("again:", s)
	}
}

func TestEquation(t *testing.T) {
	for _, text := range []string{"1 = 2", "?0_1 = f(?0_1)", "X = Y", "f(X, g(1)) = h(1, 2, 3)", "(a = b) = (c = d)"} {
		x := termOf(t, text)
		a, b, ok := unify.Equation(x)
		if want := term.Args(x); !ok || !sameAll([]api.Term{a, b}, want) {
			t.Errorf("Equation(%s): %v, %v, %v", text, a, b, ok)
		}
	}
	long := structure("=", nested(127, number(1)), nested(128, number(1)))
	if a, b, ok := unify.Equation(long); !ok || len(a) != 127 || len(b) != 128 {
		t.Error("256 cells:", len(a), len(b), ok)
	}
	for _, x := range append(notRight(), noEquations(t)...) {
		if a, b, ok := unify.Equation(x); ok || len(a) != 0 || len(b) != 0 {
			t.Errorf("Equation(%v): %v, %v, %v", x, a, b, ok)
		}
	}
}

// noEquations are right terms.
func noEquations(t testing.TB) []api.Term {
	return termsOf(t, "1", "a", "true", "?0_1", "X", "f(1, 2)", "f(a = b)", "a := 1", "1 =:= 1", "a @ 1", "1 =< 2", "eq(1, 1)")
}

// notRight are rows of cells that are no terms, equations among them.
func notRight() []api.Term {
	return []api.Term{
		nil, {}, {{}}, {{Kind: 9, N: 1}}, number(api.MaxNumber + 1), number(math.MinInt), atom(""), atom("A"), atom("="),
		{{Kind: api.Atom, Text: "a", N: 1}}, {{Kind: api.Int, N: 1, Var: name(0, 1)}}, variable(-2, 0), variable(api.MaxNodes, 0),
		variable(0, -1), {{Kind: api.Var, Text: "x", Var: name(0, 1)}}, f(), f(number(1))[:1], append(f(number(1)), number(2)...),
		append(number(1), number(1)...), append(variable(0, 1), variable(0, 1)...), nested(api.MaxCells+1, number(1)),
		f(slices.Repeat([]api.Term{number(1)}, api.MaxArity+1)...), structure("=", number(1)), structure("=", number(1), number(1), number(1)),
		structure("=", number(1), nil), structure("=", number(1), f()), structure("=", number(api.MaxNumber+1), number(1)), structure("="),
		append(structure("=", number(1), number(1)), number(1)...), {{Kind: api.Struct, Text: "=", N: math.MaxInt}}, {{Kind: api.Struct, Text: "=", N: -1}},
		{{Kind: api.Struct, Text: "=", N: 2, Var: name(0, 1)}, {Kind: api.Int}, {Kind: api.Int}}, structure("=", nested(128, number(1)), nested(128, number(1))),
		{{Kind: 9, Text: "=", N: 2}, {Kind: api.Int}, {Kind: api.Int}}, {{Kind: api.Var, Text: "=", N: 2}, {Kind: api.Int}, {Kind: api.Int}},
	}
}

func TestStepOfWrongTerms(t *testing.T) {
	h := values(t)
	for _, x := range append(notRight(), variable(-1, 0), f(variable(-1, 0))) {
		for _, y := range []api.Term{number(1), atom("a"), f(number(1)), variable(0, 1), variable(1, 0), variable(2, 0), x} {
			if r := unify.Step(h, x, y); !sameStep(r, clash()) {
				t.Errorf("Step(%v, %v): %v", x, y, r)
			}
			if r := unify.Step(h, y, x); !sameStep(r, clash()) {
				t.Errorf("Step(%v, %v): %v", y, x, r)
			}
		}
	}
	// A variable that has a value is followed only where it is right.
	k := heap.New()
	k.Bind(name(0, 1), atom("a"))
	if r := unify.Step(k, api.Term{{Kind: api.Var, Text: "x", Var: name(0, 1)}}, atom("a")); !sameStep(r, clash()) {
		t.Error("a variable with a text:", r)
	}
}

func TestSolveRefusesRows(t *testing.T) {
	right := termOf(t, "?0_1 = a")
	for _, x := range append(append(notRight(), noEquations(t)...), termsOf(t, "X = 1", "?0_1 = f(X)", "1 = X")...) {
		for _, row := range [][]api.Term{{x}, {x, right}, {right, x}, {termOf(t, "a = b"), x}, {right, x, right}} {
			for _, steps := range []int{-1, 0, 1, 100} {
				if s := unify.Solve(values(t), steps, row...); !sameSolved(s, unify.Solved{Outcome: api.Fails}) {
					t.Errorf("Solve(%d, %v): %v", steps, row, s)
				}
			}
		}
	}
}

func TestSolve(t *testing.T) {
	for _, c := range []struct {
		steps int
		row   []string
		want  unify.Solved
	}{
		{5, nil, unify.Solved{Outcome: api.Commits}}, {0, nil, unify.Solved{Outcome: api.Commits}}, {-7, nil, unify.Solved{Outcome: api.Commits}},
		{0, []string{"a = b"}, unify.Solved{Outcome: api.Suspends, Left: termsOf(t, "a = b")}},
		{-1, []string{"a = b", "?0_1 = 1"}, unify.Solved{Outcome: api.Suspends, Left: termsOf(t, "a = b", "?0_1 = 1")}},
		{math.MinInt, []string{"a = a"}, unify.Solved{Outcome: api.Suspends, Left: termsOf(t, "a = a")}},
		{1, []string{"a = a"}, unify.Solved{Outcome: api.Commits, Steps: 1}}, {9, []string{"a = a"}, unify.Solved{Outcome: api.Commits, Steps: 1}},
		{math.MaxInt, []string{"a = a", "?0_1 = 1"}, unify.Solved{Outcome: api.Commits, Steps: 2, Bound: bindingsOf(t, "?0_1", "1")}},
		{1, []string{"a = b"}, unify.Solved{Outcome: api.Fails, Steps: 1}}, {9, []string{"?0_1 = 1", "?0_1 = 2", "?0_2 = 1"}, unify.Solved{Outcome: api.Fails, Steps: 2}},
		{1, []string{"?0_1 = 1", "?0_1 = 2"}, unify.Solved{Outcome: api.Suspends, Steps: 1, Bound: bindingsOf(t, "?0_1", "1"), Left: termsOf(t, "?0_1 = 2")}},
		// Parts stand in the place of their equation, in order.
		{1, []string{"f(1, ?0_1) = f(1, 2)", "?0_2 = 3"}, unify.Solved{Outcome: api.Suspends, Steps: 1, Left: termsOf(t, "1 = 1", "?0_1 = 2", "?0_2 = 3")}},
		{2, []string{"f(1, ?0_1) = f(1, 2)", "?0_2 = 3"}, unify.Solved{Outcome: api.Suspends, Steps: 2, Left: termsOf(t, "?0_1 = 2", "?0_2 = 3")}},
		{3, []string{"f(1, ?0_1) = f(1, 2)", "?0_2 = 3"}, unify.Solved{Outcome: api.Suspends, Steps: 3, Bound: bindingsOf(t, "?0_1", "2"), Left: termsOf(t, "?0_2 = 3")}},
		{4, []string{"f(1, ?0_1) = f(1, 2)", "?0_2 = 3"}, unify.Solved{Outcome: api.Commits, Steps: 4, Bound: bindingsOf(t, "?0_1", "2", "?0_2", "3")}},
		{2, []string{"f(g(a, b), c) = f(g(d, e), h)"}, unify.Solved{Outcome: api.Suspends, Steps: 2, Left: termsOf(t, "a = d", "b = e", "c = h")}},
		{3, []string{"f(g(a, b), c) = f(g(d, e), h)"}, unify.Solved{Outcome: api.Fails, Steps: 3}},
		// By the map that it begins with, and by what was bound since.
		{9, []string{"?1_0 = f(3)", "?0_1 = 3"}, unify.Solved{Outcome: api.Commits, Steps: 3, Bound: bindingsOf(t, "?0_1", "3")}},
		{9, []string{"?0_2 = ?0_1", "?0_2 = ?1_2", "?0_1 = ?0_2"}, unify.Solved{Outcome: api.Commits, Steps: 3, Bound: bindingsOf(t, "?0_2", "?0_1", "?0_1", "7")}},
		{9, []string{"?3_0 = ?3_1", "?3_1 = ?3_2", "?3_2 = ?2_1", "?3_0 = b"}, unify.Solved{Outcome: api.Commits, Steps: 4, Bound: bindingsOf(t, "?3_1", "?3_0", "?3_2", "?3_0", "?3_0", "?0_2", "?0_2", "b")}},
		{9, []string{"?0_1 = f(?0_1)"}, unify.Solved{Outcome: api.Commits, Steps: 1, Bound: bindingsOf(t, "?0_1", "f(?0_1)")}},
	} {
		h := values(t)
		if got := unify.Solve(h, c.steps, termsOf(t, c.row...)...); !sameSolved(got, c.want) {
			t.Errorf("Solve(%d, %v): %v, want %v", c.steps, c.row, got, c.want)
		}
		if !slices.EqualFunc(h.Bindings(), values(t).Bindings(), sameBinding) {
			t.Errorf("Solve(%d, %v) changes the map: %v", c.steps, c.row, h.Bindings())
		}
	}
}

// TestRowsThatGrow: equations that come to no end grow by each step; the order stays.
func TestRowsThatGrow(t *testing.T) {
	row := termsOf(t, "?0_0 = f(?0_0, ?0_0)", "?0_1 = f(?0_1, ?0_1)", "?0_0 = ?0_1", "?0_2 = a")
	const steps = 5000
	s := unify.Solve(nil, steps, row...)
	if s.Outcome != api.Suspends || s.Steps != steps || len(s.Bound) != 2 || len(s.Left) != steps {
		t.Fatal(s.Outcome, s.Steps, s.Bound, len(s.Left))
	}
	for i, x := range s.Left {
		want := row[2]
		if i == steps-1 {
			want = row[3]
		}
		if !term.Equal(x, want) {
			t.Fatal(i, x)
		}
	}
}
