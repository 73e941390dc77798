package model_test

import (
	"fmt"
	"math"
	"slices"
	"strconv"
	"strings"
	"testing"

	"purlin/api"
	"purlin/heap"
	"purlin/model"
	"purlin/syntax"
	"purlin/term"
)

// The calls have the forms that chapter 9 lists.
var (
	_ func(api.Program, int) (*model.Model, api.Errno) = model.New
	_ func(*model.Model, api.Goal) api.Errno           = (*model.Model).Submit
	_ func(*model.Model, api.Commit) api.Errno         = (*model.Model).Take
	_ func(*model.Model) []api.Goal                    = (*model.Model).Goals
	_ func(*model.Model) *heap.Heap                    = (*model.Model).Heap
	_ func(*model.Model) []api.Goal                    = (*model.Model).Open
	_ func(*model.Model) bool                          = (*model.Model).Failed
	_ func(*model.Model) *model.Model                  = (*model.Model).Fork
)

func name(node, number int) api.Name { return api.Name{Node: node, Number: number} }

func number(n int) api.Term { return api.Term{{Kind: api.Int, N: n}} }

func atom(s string) api.Term { return api.Term{{Kind: api.Atom, Text: s}} }

func variable(node, n int) api.Term { return api.Term{{Kind: api.Var, Var: name(node, n)}} }

func structure(s string, args ...api.Term) api.Term {
	return append(api.Term{{Kind: api.Struct, Text: s, N: len(args)}}, slices.Concat(args...)...)
}

// nested is f(f(..(last)..)) of so many cells.
func nested(cells int, last api.Term) api.Term {
	return append(slices.Repeat(api.Term{{Kind: api.Struct, Text: "f", N: 1}}, cells-len(last)), last...)
}

func termOf(t testing.TB, text string) api.Term {
	t.Helper()
	x, _, e, at := syntax.Term(text)
	if e != api.OK {
		t.Fatalf("%q: %v at %d", text, e, at)
	}
	return x
}

func programOf(t testing.TB, text string) api.Program {
	t.Helper()
	p, e, at := syntax.Program(text)
	if e != api.OK {
		t.Fatalf("%q: %v at %d", text, e, at)
	}
	return p
}

func goal(node, number int, x api.Term) api.Goal { return api.Goal{Name: name(node, number), Term: x} }

// machineOf is one with goals (0, 0), (0, 1), ..
func machineOf(t testing.TB, nodes int, program string, goals ...string) *model.Model {
	t.Helper()
	m, e := model.New(programOf(t, program), nodes)
	if e != api.OK {
		t.Fatalf("%q: %v", program, e)
	}
	for i, s := range goals {
		submit(t, m, goal(0, i, termOf(t, s)))
	}
	return m
}

func submit(t testing.TB, m *model.Model, l ...api.Goal) {
	t.Helper()
	for _, g := range l {
		if e := m.Submit(g); e != api.OK {
			t.Fatalf("Submit %v: %v", g, e)
		}
	}
}

// know lets variables have values, by goals that come and go: V = X each.
func know(t testing.TB, m *model.Model, equations ...string) {
	t.Helper()
	for i, s := range equations {
		x := termOf(t, s)
		g := goal(0, 100000+i, x)
		submit(t, m, g)
		take(t, m, api.Commit{Goal: g, Clause: -1, Bound: []api.Binding{{Var: x[1].Var, Term: x[2:]}}})
	}
}

func take(t testing.TB, m *model.Model, l ...api.Commit) {
	t.Helper()
	for _, c := range l {
		if e := m.Take(c); e != api.OK {
			t.Fatalf("Take %v: %v", c, e)
		}
	}
}

// commitOf reads what a commit tells: parts with semicolons between: fails; by 0; new ?0_7; ?0_1 := f(a); 0.3 p(?0_7).
func commitOf(t testing.TB, node int, g api.Goal, text string) api.Commit {
	t.Helper()
	c := api.Commit{Node: node, Goal: g, Clause: -1}
	for _, part := range strings.Split(text, ";") {
		part = strings.TrimSpace(part)
		first, rest, _ := strings.Cut(part, " ")
		whole, behind, isName := strings.Cut(first, ".")
		switch {
		case part == "":
		case part == "fails":
			c.Fails = true
		case first == "by":
			c.Clause, _ = strconv.Atoi(rest)
		case first == "new":
			c.Fresh = append(c.Fresh, termOf(t, rest)[0].Var)
		case isName:
			node, _ := strconv.Atoi(whole)
			n, _ := strconv.Atoi(behind)
			c.Goals = append(c.Goals, goal(node, n, termOf(t, rest)))
		default:
			x := termOf(t, part)
			c.Bound = append(c.Bound, api.Binding{Var: x[1].Var, Term: x[2:]})
		}
	}
	return c
}

func sameGoal(a, b api.Goal) bool { return a.Name == b.Name && term.Equal(a.Term, b.Term) }

func sameGoals(a, b []api.Goal) bool { return slices.EqualFunc(a, b, sameGoal) }

// state is all that a machine tells.
func state(m *model.Model) string {
	return fmt.Sprint(m.Goals(), m.Open(), m.Heap().Bindings(), m.Failed())
}

// refuse tells that a commit has an error, and that it changes nothing.
func refuse(t testing.TB, m *model.Model, c api.Commit, want api.Errno) {
	t.Helper()
	before := state(m)
	if e := m.Take(c); e != want {
		t.Errorf("Take %v: %v, want %v", c, e, want)
	}
	if state(m) != before {
		t.Errorf("Take %v changes %s to %s", c, before, state(m))
	}
}

func TestExamples(t *testing.T) {
	m := machineOf(t, 1, "", "?0_0 = a", "?0_0 = b")
	x, y := m.Goals()[0], m.Goals()[1]
	for _, both := range [][2]api.Commit{
		{commitOf(t, 0, x, "?0_0 := a"), commitOf(t, 0, y, "fails")},
		{commitOf(t, 0, y, "?0_0 := b"), commitOf(t, 0, x, "fails")},
	} {
		k := m.Fork()
		refuse(t, k, both[1], api.ErrTrace)
		take(t, k, both[0])
		if k.Failed() || len(k.Open()) != 1 {
			t.Error(k.Failed(), k.Open())
		}
		take(t, k, both[1])
		if !k.Failed() || len(k.Goals()) != 0 {
			t.Error(k.Failed(), k.Goals())
		}
	}
	m = machineOf(t, 1, "p(X) :- X > 0 | true.", "p(?0_0)")
	if len(m.Open()) != 0 {
		t.Error(m.Open())
	}
	know(t, m, "?0_0 = 1")
	if !sameGoals(m.Open(), m.Goals()) || len(m.Open()) != 1 {
		t.Error(m.Open())
	}
}

// TestExampleOfTheWhole is the run of DOC.md's first example, with the commits of both nodes in one row.
func TestExampleOfTheWhole(t *testing.T) {
	m := machineOf(t, 2, "p(X) :- X > 0 | q(X) @ 1. q(X) :- Y := X + 1, r(Y). r(3).", "p(2)", "p(0)", "p(?0_0)")
	p := m.Goals()
	if !sameGoals(m.Open(), p[:2]) {
		t.Error(m.Open())
	}
	sent := goal(0, 3, termOf(t, "q(2) @ 1"))
	q := goal(0, 4, termOf(t, "q(2)"))
	sum, r := goal(1, 0, termOf(t, "?1_0 := 2 + 1")), goal(1, 1, termOf(t, "r(?1_0)"))
	equation := goal(1, 2, termOf(t, "?1_0 = 3"))
	take(t, m,
		api.Commit{Goal: p[0], Goals: []api.Goal{sent}},
		api.Commit{Goal: sent, Clause: -1, Goals: []api.Goal{q}},
		api.Commit{Node: 1, Goal: q, Clause: 1, Fresh: []api.Name{name(1, 0)}, Goals: []api.Goal{sum, r}},
		commitOf(t, 0, p[1], "fails"),
	)
	if !sameGoals(m.Open(), []api.Goal{sum}) {
		t.Error(m.Open())
	}
	refuse(t, m, commitOf(t, 1, r, "by 2"), api.ErrTrace)
	take(t, m, commitOf(t, 1, sum, "1.2 ?1_0 = 3"), commitOf(t, 1, equation, "?1_0 := 3"), commitOf(t, 1, r, "by 2"))
	if !sameGoals(m.Goals(), p[2:]) || len(m.Open()) != 0 || !m.Failed() {
		t.Error(state(m))
	}
}

func TestNew(t *testing.T) {
	right := programOf(t, "p(X) :- q(X). q(a).")
	for nodes, want := range map[int]api.Errno{
		math.MinInt: api.ErrRange, -1: api.ErrRange, 0: api.ErrRange, 1: api.OK, 2: api.OK, 3: api.OK, api.MaxNodes: api.OK,
		api.MaxNodes + 1: api.ErrRange, math.MaxInt: api.ErrRange,
	} {
		for _, p := range []api.Program{right, nil, {}} {
			m, e := model.New(p, nodes)
			if e != want || (m == nil) != (e != api.OK) {
				t.Errorf("New of %d nodes: %v, %v", nodes, m, e)
			}
			if m != nil && (len(m.Goals()) != 0 || len(m.Open()) != 0 || m.Failed() || len(m.Heap().Bindings()) != 0) {
				t.Error(state(m))
			}
		}
	}
	wrong := map[api.Errno]api.Program{
		api.ErrLong:  slices.Repeat(right, api.MaxClauses),
		api.ErrForm:  {{}},
		api.ErrHead:  {{Head: number(1)}},
		api.ErrGuard: {{Head: atom("p"), Guards: []api.Term{atom("q")}}},
		api.ErrBody:  {{Head: atom("p"), Body: []api.Term{number(1)}}},
		api.ErrPred:  programOf(t, "p :- q."),
	}
	for want, p := range wrong {
		for _, nodes := range []int{-1, 0, 1, api.MaxNodes, api.MaxNodes + 1} {
			if m, e := model.New(p, nodes); m != nil || e != want {
				t.Errorf("New: %v, %v; want %v", m, e, want)
			}
		}
	}
}

func TestSubmit(t *testing.T) {
	for nodes := 1; nodes <= api.MaxNodes; nodes++ {
		m := machineOf(t, nodes, "p(X).", "p(1)")
		for node := -2; node <= api.MaxNodes+1; node++ {
			want := api.ErrForm
			if node >= 0 && node < nodes {
				want = api.OK
			}
			if e := m.Fork().Submit(goal(node, 7, atom("p"))); e != want {
				t.Errorf("%d nodes: a goal of node %d: %v", nodes, node, e)
			}
			x := structure("p", variable(0, 0), structure("g", variable(node, 3)))
			if e := m.Fork().Submit(goal(0, 7, x)); e != want {
				t.Errorf("%d nodes: a variable of node %d: %v", nodes, node, e)
			}
		}
	}
	m := machineOf(t, 2, "p(X).", "p(1)")
	for _, g := range []api.Goal{
		goal(0, 0, atom("p")), goal(0, 0, termOf(t, "p(1)")), goal(0, 1, nil), goal(0, 1, api.Term{}), goal(0, 1, number(1)),
		goal(0, 1, variable(0, 0)), goal(0, 1, variable(-1, 0)), goal(0, 1, termOf(t, "p(X)")), goal(0, 1, api.Term{{}}),
		goal(0, 1, variable(0, -1)), goal(0, 1, structure("p", variable(1, -1))), goal(0, 1, structure("+", number(1))),
		goal(0, 1, nested(api.MaxCells+1, atom("a"))), goal(0, 1, api.Term{{Kind: api.Struct, Text: "p", N: 1}}),
		goal(0, 1, append(atom("p"), atom("p")...)), goal(0, 1, number(api.MaxNumber+1)), goal(0, 1, atom("P")),
		goal(math.MinInt, 1, atom("p")), goal(math.MaxInt, 1, atom("p")), goal(2, 1, atom("p")), goal(-1, 1, atom("p")),
	} {
		before := state(m)
		if e := m.Submit(g); e != api.ErrForm || state(m) != before {
			t.Errorf("Submit %v: %v, %s", g, e, state(m))
		}
	}
	more := []api.Goal{
		goal(0, math.MinInt, atom("true")), goal(0, -1, atom("a")), goal(0, 1, atom("p")), goal(0, math.MaxInt, termOf(t, "1 + 1")),
		goal(1, -7, termOf(t, "?1_0 @ ?0_9")), goal(1, 0, termOf(t, "a := b")), goal(1, 1, nested(api.MaxCells, variable(1, 1))),
	}
	for _, i := range []int{5, 0, 3, 6, 1, 4, 2} {
		submit(t, m, more[i])
	}
	if want := slices.Insert(slices.Clone(more), 2, goal(0, 0, termOf(t, "p(1)"))); !sameGoals(m.Goals(), want) {
		t.Error(m.Goals())
	}
}

// TestNamesOfGoneGoals: a goal that is gone leaves its name used.
func TestNamesOfGoneGoals(t *testing.T) {
	m := machineOf(t, 1, "", "true")
	c := commitOf(t, 0, m.Goals()[0], "")
	take(t, m, c)
	if e := m.Submit(c.Goal); e != api.ErrForm || len(m.Goals()) != 0 {
		t.Error(e, m.Goals())
	}
	refuse(t, m, c, api.ErrGoal)
}
