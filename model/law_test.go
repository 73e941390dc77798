package model_test

import (
	"fmt"
	"maps"
	"math/rand"
	"slices"
	"testing"

	"purlin/api"
	"purlin/arith"
	"purlin/heap"
	"purlin/match"
	"purlin/model"
	"purlin/term"
)

// slow is a machine by the chapter's words: what a goal may become is listed, whole, and a commit is looked for in the list.
type slow struct {
	program   api.Program
	nodes     int
	goals     []api.Goal
	bound     []api.Binding
	goalNames []api.Name
	varNames  []api.Name
	failed    bool
}

func (s *slow) heap() *heap.Heap {
	h := heap.New()
	for _, b := range s.bound {
		h.Bind(b.Var, b.Term)
	}
	return h
}

func (s *slow) fork() *slow {
	k := *s
	k.goals, k.bound = slices.Clone(s.goals), slices.Clone(s.bound)
	k.goalNames, k.varNames = slices.Clone(s.goalNames), slices.Clone(s.varNames)
	return &k
}

func (s *slow) isNode(n int) bool { return n >= 0 && n < s.nodes }

func (s *slow) submit(g api.Goal) api.Errno {
	if !term.Global(g.Term) || g.Term[0].Kind == api.Int || g.Term[0].Kind == api.Var || slices.Contains(s.goalNames, g.Name) || !s.isNode(g.Name.Node) {
		return api.ErrForm
	}
	for _, v := range term.Vars(g.Term) {
		if !s.isNode(v.Node) {
			return api.ErrForm
		}
	}
	s.goals = append(s.goals, g)
	s.goalNames = append(s.goalNames, g.Name)
	s.varNames = append(s.varNames, term.Vars(g.Term)...)
	return api.OK
}

// told is what a commit may tell; the names of its goals play no part in it.
type told struct {
	fails  bool
	clause int
	fresh  []api.Name
	bound  []api.Binding
	goals  []api.Term
}

func (x told) text() string {
	return fmt.Sprintf("%v %d %d %v %d %v %d %v", x.fails, x.clause, len(x.fresh), x.fresh, len(x.bound), x.bound, len(x.goals), x.goals)
}

func toldBy(c api.Commit) told {
	x := told{fails: c.Fails, clause: c.Clause, fresh: slices.Concat(c.Fresh), bound: slices.Concat(c.Bound)}
	for _, g := range c.Goals {
		x.goals = append(x.goals, g.Term)
	}
	return x
}

// may lists all that may be told of a goal, with these names of new variables.
func (s *slow) may(goal api.Term, fresh []api.Name) []told {
	h := s.heap()
	t := h.Deref(goal)
	fails := []told{{fails: true, clause: -1}}
	sides := term.Args(t)
	switch {
	case t[0].Kind == api.Var:
		return nil
	case t[0].Kind == api.Int:
		return fails
	case term.Equal(t, atom("true")):
		return []told{{clause: -1}}
	case t[0].Text == "=":
		return s.mayEquation(h.Chain(sides[0]), h.Chain(sides[1]))
	case t[0].Text == ":=":
		n, o, _ := arith.Value(h, sides[1])
		return map[api.Outcome][]told{api.Commits: {{clause: -1, goals: []api.Term{structure("=", sides[0], number(n))}}}, api.Fails: fails}[o]
	case t[0].Text == "@":
		p := h.Deref(sides[1])
		for n := range s.nodes {
			if term.Equal(p, number(n)) {
				return []told{{clause: -1, goals: sides[:1]}}
			}
		}
		if p[0].Kind != api.Var {
			return fails
		}
		return nil
	}
	var l []told
	for i, c := range s.program {
		l = append(l, mayClause(h, i, c, t, fresh)...)
	}
	if match.Try(h, s.program, t).Outcome == api.Fails {
		l = append(l, fails...)
	}
	return l
}

func mayClause(h *heap.Heap, number int, c api.Clause, t api.Term, fresh []api.Name) []told {
	tried := match.Clause(h, c, t)
	if tried.Outcome != api.Commits {
		return nil
	}
	enough := slices.Concat(fresh, make([]api.Name, api.MaxLocals))[:len(match.Free(c))]
	if _, e := match.Body(c, tried.Locals, enough...); e == api.ErrLong {
		return []told{{fails: true, clause: number}}
	}
	body, e := match.Body(c, tried.Locals, fresh...)
	if e != api.OK {
		return nil
	}
	return []told{{clause: number, fresh: fresh, goals: body}}
}

func (s *slow) mayEquation(a, b []api.Term) []told {
	var l []told
	for _, x := range a {
		for _, y := range b {
			if term.Equal(x, y) && x[0].Kind != api.Struct {
				l = append(l, told{clause: -1})
			}
		}
	}
	x, y := a[len(a)-1], b[len(b)-1]
	for _, both := range []struct {
		last  api.Term
		other []api.Term
	}{{x, b}, {y, a}} {
		for _, u := range both.other {
			if both.last[0].Kind == api.Var && (u[0].Kind != api.Var || term.Less(u[0].Var, both.last[0].Var)) {
				l = append(l, told{clause: -1, bound: []api.Binding{{Var: both.last[0].Var, Term: u}}})
			}
		}
	}
	if x[0].Kind == api.Var || y[0].Kind == api.Var {
		return l
	}
	left, right := term.Args(x), term.Args(y)
	if x[0].Kind != api.Struct || y[0].Kind != api.Struct || x[0].Text != y[0].Text || len(left) != len(right) {
		if !term.Equal(x, y) {
			l = append(l, told{clause: -1, fails: true})
		}
		return l
	}
	parts, most := told{clause: -1}, 0
	for i := range left {
		part := structure("=", left[i], right[i])
		parts.goals, most = append(parts.goals, part), max(most, len(part))
	}
	if most > api.MaxCells {
		return append(l, told{clause: -1, fails: true})
	}
	return append(l, parts)
}

func (s *slow) at(n api.Name) int {
	return slices.IndexFunc(s.goals, func(g api.Goal) bool { return g.Name == n })
}

// mayHave tells whether a node may give these names, each once.
func mayHave(node int, old, l []api.Name) bool {
	for i, n := range l {
		if n.Node != node || n.Number < 0 || slices.Contains(old, n) || slices.Contains(l[:i], n) {
			return false
		}
	}
	return true
}

func (s *slow) take(c api.Commit) api.Errno {
	i := s.at(c.Goal.Name)
	if i < 0 {
		return api.ErrGoal
	}
	var names []api.Name
	for _, g := range c.Goals {
		names = append(names, g.Name)
	}
	if !term.Equal(s.goals[i].Term, c.Goal.Term) || !s.isNode(c.Node) || !mayHave(c.Node, s.goalNames, names) || !mayHave(c.Node, s.varNames, c.Fresh) {
		return api.ErrTrace
	}
	text := toldBy(c).text()
	if !slices.ContainsFunc(s.may(c.Goal.Term, slices.Concat(c.Fresh)), func(x told) bool { return x.text() == text }) {
		return api.ErrTrace
	}
	s.goals = slices.Concat(s.goals[:i], s.goals[i+1:], c.Goals)
	s.bound = append(s.bound, c.Bound...)
	s.goalNames, s.varNames = append(s.goalNames, names...), append(s.varNames, c.Fresh...)
	s.failed = s.failed || c.Fails
	return api.OK
}

// state is what the machine must tell: a goal is open, if there is something to be told of it.
func (s *slow) state() string {
	l := slices.Clone(s.goals)
	slices.SortFunc(l, func(a, b api.Goal) int {
		if term.Less(a.Name, b.Name) {
			return -1
		}
		return 1
	})
	var open []api.Goal
	for _, g := range l {
		for n := range 3 { // no clause of the programs leaves more without a term
			if len(s.may(g.Term, make([]api.Name, n))) > 0 {
				open = append(open, g)
				break
			}
		}
	}
	return fmt.Sprint(l, open, s.heap().Bindings(), s.failed)
}

// programs are those of the runs, each with atoms that lead to its calls.
func programs() []string {
	return []string{
		"p(X) :- X > 0 | q(X, Y), r(Y). p(X) :- X < 2 | true. p(f(X, Y)) :- p(X), p(Y) @ X. q(X, Y) :- Y := X + 1. q(X, Y) :- X = Y. q(a, b). r(1). r(X) :- known(X) | p(X).",
		"p(X) :- r(f(X, X)). q(X, f(Y, Z)) :- X = Y, Z = W, r(W). q(X, Y) :- integer(X) | p(Y) @ X. r(X) :- compound(X) | q(X, X), r(f(X, f(X, X))). r(f(X, Y)) :- r(Y).",
		"p(X) :- p(X). q(X, Y) :- unlike(X, Y) | X = Y. q(X, Y) :- equal(X, Y) | V = U, U = X. r(X) :- X = f(Y, Z), q(Y, Z).",
	}
}

func someTerm(r *rand.Rand, deep int) api.Term {
	switch n := r.Intn(10); {
	case n < 5:
		return variable(r.Intn(2), r.Intn(5))
	case n == 5:
		return atom([]string{"a", "b", "true"}[r.Intn(3)])
	case n < 8 || deep == 0:
		return number(r.Intn(4) - 1)
	case n == 8 && r.Intn(4) == 0:
		return nested([]int{60, 100, 126, 127}[r.Intn(4)], someTerm(r, 0))
	}
	return someStructure(r, "f", deep)
}

func someStructure(r *rand.Rand, text string, deep int) api.Term {
	for {
		if x := structure(text, someTerm(r, deep-1), someTerm(r, deep-1)); term.Right(x) {
			return x
		}
	}
}

func someGoal(r *rand.Rand) api.Term {
	switch r.Intn(12) {
	case 0:
		return atom([]string{"true", "nobody"}[r.Intn(2)])
	case 1:
		return structure(":=", someTerm(r, 0), someStructure(r, []string{"+", "-", "div", "f"}[r.Intn(4)], 1))
	case 2:
		return structure("@", someTerm(r, 0), number(r.Intn(2)))
	case 3:
		return structure("@", structure("p", someTerm(r, 0)), someTerm(r, 0))
	case 4:
		return structure([]string{"p", "r"}[r.Intn(2)], nested([]int{2, 60, 83, 84, 85, 126, 127, 128}[r.Intn(8)], someTerm(r, 0)))
	case 5:
		return structure([]string{"p", "r"}[r.Intn(2)], someTerm(r, 2))
	case 6, 7:
		return someStructure(r, "q", 2)
	}
	return someStructure(r, "=", 3)
}

// met counts what came up, so that a run that meets nothing does not pass.
type met map[string]int

func (m met) enough(t *testing.T, least int, keys ...string) {
	t.Helper()
	for _, k := range keys {
		if m[k] < least {
			t.Errorf("%s came up %d times alone: %v", k, m[k], m)
		}
	}
}

// kindOf is the kind of a goal that a machine has.
func (s *slow) kindOf(x api.Term) string {
	switch c := s.heap().Deref(x)[0]; {
	case c.Kind == api.Var:
		return "variable"
	case c.Kind == api.Int:
		return "number"
	case c.Text == "=" || c.Text == ":=" || c.Text == "@" || c.Text == "true":
		return c.Text
	}
	return "call"
}

// someCommit is a reduction of a goal of the machine, if it has one, or nearly one.
func (s *slow) someCommit(r *rand.Rand) api.Commit {
	if len(s.goals) == 0 {
		return api.Commit{Clause: -1, Fails: true}
	}
	g := s.goals[r.Intn(len(s.goals))]
	c := api.Commit{Node: r.Intn(s.nodes), Goal: g, Clause: -1}
	next := func(old []api.Name) int { return 5 + len(old) }
	var fresh []api.Name
	for i := range r.Intn(4) {
		fresh = append(fresh, name(c.Node, next(s.varNames)+i))
	}
	var all []told
	for n := range len(fresh) + 1 {
		all = append(all, s.may(g.Term, fresh[:n])...)
	}
	if len(all) == 0 {
		c.Fails = r.Intn(2) == 0
		return c
	}
	x := all[r.Intn(len(all))]
	c.Fails, c.Clause, c.Fresh, c.Bound = x.fails, x.clause, x.fresh, x.bound
	for i, t := range x.goals {
		c.Goals = append(c.Goals, goal(c.Node, next(s.goalNames)+i, t))
	}
	return c
}

// hold does a commit on both machines, and holds what they tell against each other.
func hold(t *testing.T, m *model.Model, s *slow, c api.Commit, count met) api.Errno {
	t.Helper()
	kind := "none"
	if i := s.at(c.Goal.Name); i >= 0 {
		kind = s.kindOf(s.goals[i].Term)
	}
	before := state(m)
	want := s.take(c)
	if e := m.Take(c); e != want {
		t.Fatalf("Take %v of %s: %v, want %v", c, before, e, want)
	}
	if got, must := state(m), s.state(); got != must {
		t.Fatalf("behind %v of %s: %s, want %s", c, before, got, must)
	}
	count[fmt.Sprint(kind, " ", want)]++
	if want == api.OK && c.Fails {
		count[kind+" fails"]++
	}
	if want == api.OK && c.Fails && c.Clause >= 0 {
		count["too long"]++
	}
	return want
}

// TestRunsByTheirWords is P9.1 to P9.6 over runs, with reductions and with what is nearly one.
func TestRunsByTheirWords(t *testing.T) {
	count := met{}
	for seed := range 160 {
		r := rand.New(rand.NewSource(int64(seed)))
		p := programOf(t, programs()[seed%3])
		nodes := 1 + r.Intn(3)
		m, e := model.New(p, nodes)
		if e != api.OK {
			t.Fatal(e)
		}
		s := &slow{program: p, nodes: nodes}
		reduced := map[api.Name]int{}
		for step := range 40 {
			if step < 6 || r.Intn(8) == 0 {
				g := goal(r.Intn(3), r.Intn(60), someGoal(r))
				want := s.submit(g)
				if e := m.Submit(g); e != want || state(m) != s.state() {
					t.Fatalf("Submit %v: %v, want %v", g, e, want)
				}
				count[fmt.Sprint("submit ", want)]++
				continue
			}
			open, values := m.Open(), m.Heap().Bindings()
			c := s.someCommit(r)
			if r.Intn(4) == 0 {
				all := spoilt(c)
				c = all[slices.Sorted(maps.Keys(all))[r.Intn(len(all))]]
			}
			if hold(t, m, s, c, count) != api.OK {
				continue
			}
			reduced[c.Goal.Name]++
			stays(t, m, c, open, values)
			count["stayed open"] += len(open) - 1
		}
		for n, times := range reduced {
			if times != 1 {
				t.Errorf("%v is reduced %d times", n, times)
			}
		}
	}
	count.enough(t, 12, "none 90", "true 0", "true 220", "= 0", "= 220", "= fails", ":= 0", ":= 220", ":= fails", "@ 0", "@ 220", "@ fails",
		"call 0", "call 220", "call fails", "variable 220", "submit 0", "submit 6", "stayed open")
	count.enough(t, 5, "too long", "number 0", "number 220")
}

// stays tells that who was open is so still (P9.5), and that what had a value has it still (P9.6).
func stays(t *testing.T, m *model.Model, c api.Commit, open []api.Goal, values []api.Binding) {
	t.Helper()
	now, h := m.Open(), m.Heap()
	for _, g := range open {
		if g.Name != c.Goal.Name && !slices.ContainsFunc(now, func(o api.Goal) bool { return sameGoal(o, g) }) {
			t.Errorf("behind %v: %v is not open any more", c, g)
		}
	}
	for _, b := range values {
		if x, ok := h.Value(b.Var); !ok || !term.Equal(x, b.Term) {
			t.Errorf("behind %v: %v has the value %v, had %v", c, b.Var, x, b.Term)
		}
	}
}

// TestForksGoTheirOwnWay is P4: many machines, each forked from another one, hold what they must.
func TestForksGoTheirOwnWay(t *testing.T) {
	count := met{}
	for seed := range 30 {
		r := rand.New(rand.NewSource(int64(1000 + seed)))
		p := programOf(t, programs()[seed%3])
		first, _ := model.New(p, 2)
		machines, all := []*model.Model{first}, []*slow{{program: p, nodes: 2}}
		for range 120 {
			i := r.Intn(len(machines))
			m, s := machines[i], all[i]
			switch n := r.Intn(10); {
			case n == 0 && len(machines) < 12:
				machines, all = append(machines, m.Fork()), append(all, s.fork())
			case n < 4:
				g := goal(r.Intn(2), r.Intn(60), someGoal(r))
				if e := m.Submit(g); e != s.submit(g) {
					t.Fatal(g, e)
				}
			default:
				hold(t, m, s, s.someCommit(r), count)
			}
		}
		for i, m := range machines {
			if state(m) != all[i].state() {
				t.Fatalf("machine %d of %d: %s, want %s", i, len(machines), state(m), all[i].state())
			}
		}
	}
	count.enough(t, 20, "= 0", "call 0", "@ 0", "true 0")
}

// roomy is a term with room behind its end that is marked.
func roomy(t api.Term) api.Term {
	r := append(make(api.Term, 0, len(t)+4), t...)
	for i := range r[len(t):cap(r)] {
		r[len(t):cap(r)][i] = api.Cell{Kind: 77, Text: "mark", N: i}
	}
	return r
}

func roomyList[T any](l []T, mark T, each func(T) T) []T {
	r := make([]T, 0, len(l)+3)
	for _, x := range l {
		r = append(r, each(x))
	}
	for i := range r[len(l):cap(r)] {
		r[len(l):cap(r)][i] = mark
	}
	return r
}

func roomyGoal(g api.Goal) api.Goal { return api.Goal{Name: g.Name, Term: roomy(g.Term)} }

func roomyCommit(c api.Commit) api.Commit {
	c.Goal = roomyGoal(c.Goal)
	c.Fresh = roomyList(c.Fresh, name(77, 77), func(n api.Name) api.Name { return n })
	c.Bound = roomyList(c.Bound, api.Binding{Var: name(77, 77)}, func(b api.Binding) api.Binding { return api.Binding{Var: b.Var, Term: roomy(b.Term)} })
	c.Goals = roomyList(c.Goals, goal(77, 77, number(77)), roomyGoal)
	return c
}

// whole tells all of a commit, spare room too.
func whole(c api.Commit) string {
	s := fmt.Sprint(c.Node, c.Goal.Name, c.Goal.Term[:cap(c.Goal.Term)], c.Fails, c.Clause, c.Fresh[:cap(c.Fresh)])
	for _, b := range c.Bound[:cap(c.Bound)] {
		s += fmt.Sprintln(b.Var, len(b.Term), b.Term[:cap(b.Term)])
	}
	return s + wholeGoals(c.Goals)
}

func wholeGoals(l []api.Goal) string {
	s := ""
	for _, g := range l[:cap(l)] {
		s += fmt.Sprintln(g.Name, len(g.Term), g.Term[:cap(g.Term)])
	}
	return s
}

func wipe(x api.Term) {
	for i := range x[:cap(x)] {
		x[:cap(x)][i] = api.Cell{Kind: 99}
	}
}

// wipeGoals wipes terms one by one: none lies in another one.
func wipeGoals(t *testing.T, l []api.Goal) {
	t.Helper()
	for i, g := range l {
		others := fmt.Sprint(l[:i], l[i+1:])
		wipe(g.Term)
		if fmt.Sprint(l[:i], l[i+1:]) != others {
			t.Error("an answer lies in another one")
		}
	}
	clear(l[:cap(l)])
}

func wipeCommit(c api.Commit) {
	wipe(c.Goal.Term)
	clear(c.Fresh[:cap(c.Fresh)])
	for _, b := range c.Bound {
		wipe(b.Term)
	}
	for _, g := range c.Goals {
		wipe(g.Term)
	}
	clear(c.Bound[:cap(c.Bound)])
	clear(c.Goals[:cap(c.Goals)])
}

// TestNothingIsShared is P3: what is handed in stays, spare room too, and is not kept; what is answered is the caller's.
func TestNothingIsShared(t *testing.T) {
	taken := 0
	for seed := range 60 {
		r := rand.New(rand.NewSource(int64(2000 + seed)))
		p := roomyList(programOf(t, programs()[seed%3]), api.Clause{Locals: 77}, func(c api.Clause) api.Clause {
			c.Head, c.Guards, c.Body = roomy(c.Head), roomyList(c.Guards, number(7), roomy), roomyList(c.Body, number(7), roomy)
			return c
		})
		before := fmt.Sprintf("%#v", p[:cap(p)])
		m, _ := model.New(p, 2)
		if fmt.Sprintf("%#v", p[:cap(p)]) != before {
			t.Fatal("the program is changed")
		}
		s := &slow{program: programOf(t, programs()[seed%3]), nodes: 2}
		for _, c := range p {
			wipe(c.Head)
			for _, x := range slices.Concat(c.Guards, c.Body) {
				wipe(x)
			}
			clear(c.Guards)
			clear(c.Body)
		}
		clear(p)
		for i := range 30 {
			if i < 6 {
				g := roomyGoal(goal(0, i, someGoal(r)))
				text := wholeGoals([]api.Goal{g})
				s.submit(goal(0, i, slices.Clone(g.Term)))
				if e := m.Submit(g); e != api.OK || wholeGoals([]api.Goal{g}) != text {
					t.Fatal("a goal is changed:", g, e)
				}
				wipe(g.Term)
			} else {
				own := s.someCommit(r)
				c := roomyCommit(own)
				text := whole(c)
				if e := m.Take(c); e != s.take(own) || whole(c) != text {
					t.Fatal("a commit is changed:", text, e)
				} else if e == api.OK {
					taken++
				}
				wipeCommit(c)
			}
			want := s.state()
			k := m.Fork()
			wipeGoals(t, m.Goals())
			wipeGoals(t, m.Open())
			h := m.Heap()
			for _, b := range h.Bindings() {
				wipe(b.Term)
				h.Drop(b.Var)
			}
			h.Bind(name(1, 77), number(1))
			wipeGoals(t, k.Goals())
			if state(m) != want || state(k) != want {
				t.Fatalf("%s, want %s", state(m), want)
			}
		}
	}
	if taken < 300 {
		t.Error(taken)
	}
}

// FuzzCommits gives commits of rows of cells, right ones and others: each call ends, and tells what it must.
func FuzzCommits(f *testing.F) {
	palette := []api.Cell{
		number(1)[0], atom("a")[0], atom("true")[0], variable(0, 0)[0], variable(1, 1)[0], variable(-1, 0)[0], {Kind: api.Struct, Text: "f", N: 1},
		{Kind: api.Struct, Text: "=", N: 2}, {Kind: api.Struct, Text: ":=", N: 2}, {Kind: api.Struct, Text: "@", N: 2}, {Kind: api.Struct, Text: "p", N: 1},
		{Kind: 9}, {Kind: api.Struct, Text: "p"}, {Kind: api.Struct, Text: "=", N: 1 << 62}, {Kind: api.Var, Var: name(0, -1)},
	}
	row := func(l []byte) (x api.Term) {
		for _, b := range l {
			x = append(x, palette[int(b)%len(palette)])
		}
		return x
	}
	for a := range byte(len(palette)) {
		for b := range byte(len(palette)) {
			f.Add([]byte{7, a, b}, []byte{a}, []byte{b}, 0, -1, 7)
			f.Add([]byte{8, a, b}, []byte{b}, []byte{7, a, 0}, 1, -1, 3)
			f.Add([]byte{9, a, b}, []byte{a}, []byte{a}, 0, int(b)-2, 1)
			f.Add([]byte{10, a}, []byte{a, b}, []byte{b}, -1, 0, 1<<62)
		}
	}
	p := programOf(f, "p(X) :- X > 0 | p(Y). p(X). p(f(X)) :- q(X) @ X. q(X).")
	f.Fuzz(func(t *testing.T, g, b, c []byte, node, clause, n int) {
		m, _ := model.New(p, 2)
		s := &slow{program: p, nodes: 2}
		first := goal(0, 0, row(g))
		if e := m.Submit(first); e != s.submit(first) {
			t.Fatal(first, e)
		}
		for i, commit := range []api.Commit{
			{Clause: clause}, {Clause: clause, Fails: true}, {Clause: clause, Goals: []api.Goal{goal(node, n, row(c))}}, {Clause: clause, Fresh: []api.Name{name(node, n)}, Goals: []api.Goal{goal(0, 7, row(c))}},
			{Clause: clause, Bound: []api.Binding{{Var: name(node, n), Term: row(b)}}}, {Clause: clause, Bound: []api.Binding{{Term: row(b)}}}, {Clause: clause, Bound: []api.Binding{{Var: name(1, 1), Term: row(c)}}},
		} {
			commit.Node, commit.Goal = node, first
			if i%2 == 1 {
				commit.Node = 0
			}
			hold(t, m, s, commit, met{})
		}
	})
}
