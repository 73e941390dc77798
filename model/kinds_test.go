package model_test

import (
	"fmt"
	"math"
	"slices"
	"strings"
	"testing"

	"purlin/api"
	"purlin/model"
	"purlin/term"
)

// clauses are for the goals of the tables.
const clauses = "p(X) :- X > 0 | q(X, Y), r(Y). p(X) :- X < 10 | true. p(a). q(X, Y). r(X). " +
	"s(X, Y) :- known(Y) | Z = X, V = U, q(W, Z) @ Y. t(f(X)) :- r(X). t(g(X)). u."

// values of the tables' machines: chains of one, two and three variables, to values of all kinds and to none.
func values() []string {
	return []string{
		"?0_1 = 1", "?0_2 = a", "?0_3 = f(?0_0, b)", "?0_4 = ?0_0", "?0_5 = ?0_4", "?0_6 = ?0_5",
		"?1_1 = ?0_1", "?1_2 = ?1_1", "?1_3 = ?0_3", "?1_4 = ?1_3", "?1_5 = f(c, ?1_0)", "?1_6 = g(1)", "?1_7 = p(3)", "?1_8 = ?1_7",
		"?1_9 = f(?0_0)", "?0_9 = true",
	}
}

// row is a goal with what commits may tell of it, if none: it waits, and with what they may not.
type row struct {
	goal        string
	right, rest []string
}

func kinds() map[string][]row {
	return map[string][]row{
		"numbers": {
			{"3 @ 0", []string{"0.5 3"}, []string{"fails", "0.5 true"}},
		},
		"true": {
			{"true", []string{""}, []string{"fails", "by 0", "0.5 true", "?0_0 := 1", "new ?0_50"}},
			{"?0_9 @ 0", []string{"0.5 ?0_9"}, []string{"0.5 true", ""}},
		},
		"equations of one cell": {
			{"1 = 1", []string{""}, []string{"fails", "0.5 true", "0.5 1 = 1"}},
			{"a = a", []string{""}, []string{"fails"}},
			{"1 = 2", []string{"fails"}, []string{""}},
			{"a = b", []string{"fails"}, []string{""}},
			{"1 = a", []string{"fails"}, []string{""}},
			{"a = 1", []string{"fails"}, []string{""}},
			{"a = f(a)", []string{"fails"}, []string{"", "0.5 a = a"}},
			{"f(1) = 1", []string{"fails"}, []string{"", "0.5 1 = 1"}},
			{"?0_1 = 1", []string{""}, []string{"fails", "?0_1 := 1"}},
			{"2 = ?1_2", []string{"fails"}, []string{"", "?1_2 := 2"}},
			{"?0_2 = a", []string{""}, []string{"fails"}},
			{"?1_2 = ?0_2", []string{"fails"}, []string{"", "?1_2 := ?0_2"}},
		},
		"equations of variables": {
			{"?0_0 = ?0_0", []string{""}, []string{"?0_0 := ?0_0", "fails"}},
			{"?0_0 = ?1_0", []string{"?1_0 := ?0_0"}, []string{"", "?0_0 := ?1_0", "fails", "?1_0 := ?0_7", "?0_7 := ?0_0", "?1_0 := ?0_0 ; ?0_7 := 1"}},
			{"?1_0 = ?0_0", []string{"?1_0 := ?0_0"}, []string{"", "?0_0 := ?1_0"}},
			{"?0_6 = ?0_0", []string{""}, []string{"?0_6 := ?0_0", "?0_0 := ?0_6"}},
			{"?0_6 = ?0_5", []string{""}, []string{"?0_6 := ?0_5"}},
			{"?0_6 = ?1_0", []string{"?1_0 := ?0_6", "?1_0 := ?0_5", "?1_0 := ?0_4", "?1_0 := ?0_0"}, []string{"", "?0_0 := ?1_0", "?1_0 := ?1_0", "?0_6 := ?1_0"}},
			{"?1_0 = ?0_6", []string{"?1_0 := ?0_6", "?1_0 := ?0_5", "?1_0 := ?0_4", "?1_0 := ?0_0"}, []string{"", "?0_0 := ?1_0"}},
			{"?0_6 = ?0_7", []string{"?0_7 := ?0_6", "?0_7 := ?0_5", "?0_7 := ?0_4", "?0_7 := ?0_0"}, []string{"?0_0 := ?0_7"}},
			{"?0_6 = ?0_10", []string{"?0_10 := ?0_6", "?0_10 := ?0_5", "?0_10 := ?0_4", "?0_10 := ?0_0"}, []string{"?0_0 := ?0_10"}},
			{"?1_2 = ?0_1", []string{""}, []string{"?1_2 := ?0_1", "fails"}},
			{"?1_2 = ?0_0", []string{"?0_0 := 1"}, []string{"", "?0_0 := ?1_2", "?0_0 := ?0_1", "?0_0 := ?1_1", "?0_0 := 2", "fails"}},
			{"?1_0 = ?1_2", []string{"?1_0 := 1", "?1_0 := ?0_1"}, []string{"?1_0 := ?1_2", "?1_0 := ?1_1", "?0_1 := ?1_0"}},
			{"?1_3 = ?1_0", []string{"?1_0 := ?0_3", "?1_0 := f(?0_0, b)"}, []string{"?1_0 := ?1_3", "?1_0 := f(?0_4, b)"}},
		},
		"equations of a variable and another term": {
			{"?0_0 = 1", []string{"?0_0 := 1"}, []string{"", "?0_0 := 2", "?0_7 := 1", "?0_0 := 1 ; ?0_0 := 1"}},
			{"a = ?0_0", []string{"?0_0 := a"}, []string{"", "?0_0 := b"}},
			{"?0_6 = a", []string{"?0_0 := a"}, []string{"?0_4 := a", "?0_5 := a", "?0_6 := a", ""}},
			{"f(?0_0) = ?0_0", []string{"?0_0 := f(?0_0)"}, []string{"?0_0 := f(?0_4)", "0.5 ?0_0 = ?0_0", "fails"}},
			{"g(?0_1) = ?1_0", []string{"?1_0 := g(?0_1)"}, []string{"?1_0 := g(1)"}},
			{"?0_2 = ?0_0", []string{"?0_0 := a"}, []string{"?0_0 := ?0_2"}},
		},
		"equations of structures": {
			{"f(1) = f(2)", []string{"0.5 1 = 2"}, []string{"fails", "", "0.5 2 = 1", "0.5 1 = 2 ; 0.6 1 = 2"}},
			{"f(1) = g(1)", []string{"fails"}, []string{"", "0.5 1 = 1"}},
			{"f(1) = f(1, 2)", []string{"fails"}, []string{"", "0.5 1 = 1"}},
			{"f(1) = f", []string{"fails"}, []string{""}},
			{"f(?0_1, 1) = f(?1_0, a)", []string{"0.5 ?0_1 = ?1_0 ; 0.6 1 = a", "0.6 ?0_1 = ?1_0 ; 0.5 1 = a"}, []string{"0.5 1 = ?1_0 ; 0.6 1 = a", "0.5 1 = a ; 0.6 ?0_1 = ?1_0", "0.5 ?0_1 = ?1_0", "fails"}},
			{"?1_4 = ?1_5", []string{"0.5 ?0_0 = c ; 0.6 b = ?1_0"}, []string{"", "fails", "?1_4 := ?1_5", "0.5 ?0_0 = c"}},
			{"?1_4 = ?1_6", []string{"fails"}, []string{"", "0.5 ?0_0 = 1"}},
			{"?1_4 = ?1_9", []string{"fails"}, []string{""}},
			{"?1_4 = ?0_3", []string{"", "0.5 ?0_0 = ?0_0 ; 0.6 b = b"}, []string{"fails", "0.5 ?0_0 = ?0_0", "0.5 ?0_0 = ?0_0 ; 0.5 b = b"}},
			{"f(1, 2) = f(1, 2)", []string{"0.5 1 = 1 ; 0.6 2 = 2"}, []string{"", "fails"}},
			{"(1 = 2) = (1 = 3)", []string{"0.5 1 = 1 ; 0.6 2 = 3"}, []string{"", "fails"}},
			{"?1_6 = 1", []string{"fails"}, []string{""}},
			{"a = ?1_6", []string{"fails"}, []string{""}},
		},
		"sums": {
			{"?0_0 := 1 + 2", []string{"0.5 ?0_0 = 3"}, []string{"0.5 3 = ?0_0", "0.5 ?0_0 = 4", "?0_0 := 3", "fails", "", "0.5 ?0_0 = 3 ; 0.6 true"}},
			{"?0_6 := ?1_2", []string{"0.5 ?0_6 = 1"}, []string{"0.5 ?0_0 = 1", "0.5 ?0_6 = ?1_2"}},
			{"f(1) := -2", []string{"0.5 f(1) = -2"}, []string{"fails"}},
			{"2 := 2", []string{"0.5 2 = 2"}, []string{"", "fails"}},
			{"?0_0 := a", []string{"fails"}, []string{"", "0.5 ?0_0 = a", "?0_0 := a"}},
			{"?0_0 := div(1, 0)", []string{"fails"}, []string{"0.5 ?0_0 = 0"}},
			{"?0_0 := ?0_7 + a", []string{"fails"}, nil},
			{"?0_0 := 2147483648 + 1", []string{"fails"}, []string{"0.5 ?0_0 = 2147483648"}},
			{"?0_0 := ?0_0", nil, []string{"", "fails", "0.5 ?0_0 = 0", "?0_0 := 0"}},
			{"1 := ?0_1 + ?0_6", nil, []string{"", "fails", "0.5 1 = 1", "0.5 1 = 2"}},
		},
		"goals at a place": {
			{"p(1) @ 0", []string{"0.5 p(1)"}, []string{"fails", "", "0.5 p(2)", "0.5 p(1) ; 0.6 p(1)", "by 0 ; 0.5 p(1)", "1.5 p(1)"}},
			{"p(1) @ 1", []string{"0.5 p(1)"}, []string{"fails"}},
			{"p(1) @ 2", []string{"fails"}, []string{"0.5 p(1)", ""}},
			{"p(1) @ -1", []string{"fails"}, []string{"0.5 p(1)"}},
			{"p(1) @ 2147483648", []string{"fails"}, []string{"0.5 p(1)"}},
			{"p(1) @ a", []string{"fails"}, []string{"0.5 p(1)"}},
			{"p(1) @ f(1)", []string{"fails"}, []string{"0.5 p(1)"}},
			{"p(1) @ (0 + 1)", []string{"fails"}, []string{"0.5 p(1)"}},
			{"p(?0_1) @ ?1_2", []string{"0.5 p(?0_1)"}, []string{"0.5 p(1)", "fails"}},
			{"p(1) @ ?0_2", []string{"fails"}, []string{"0.5 p(1)"}},
			{"p(1) @ ?0_6", nil, []string{"fails", "", "0.5 p(1)"}},
			{"p(1) @ ?0_0", nil, []string{"fails", "", "0.5 p(1)"}},
			{"?0_0 @ 1", []string{"0.5 ?0_0"}, []string{"fails"}},
		},
		"calls": {
			{"p(3)", []string{"by 0 ; new ?0_50 ; 0.5 q(3, ?0_50) ; 0.6 r(?0_50)", "by 1 ; 0.5 true"}, []string{
				"", "fails", "by 0", "by 1", "by 2", "by 3", "by 0 ; fails", "by 1 ; fails", "by 9 ; 0.5 true", "by 99 ; 0.5 true", "by -2 ; 0.5 true", "0.5 true",
				"by 0 ; new ?0_50", "by 0 ; 0.5 q(3, ?0_50) ; 0.6 r(?0_50)", "by 0 ; new ?0_51 ; 0.5 q(3, ?0_50) ; 0.6 r(?0_50)",
				"by 0 ; new ?0_50 ; new ?0_51 ; 0.5 q(3, ?0_50) ; 0.6 r(?0_50)", "by 0 ; new ?0_50 ; 0.5 q(3, ?0_50)",
				"by 0 ; new ?0_50 ; 0.5 r(?0_50) ; 0.6 q(3, ?0_50)", "by 1 ; new ?0_50 ; 0.5 true", "by 1 ; 0.5 true ; ?0_0 := 1",
				"by 0 ; new ?0_50 ; 0.5 q(3, ?0_50) ; 0.6 r(?0_50) ; 0.7 true", "by 1 ; fails ; 0.5 true"}},
			{"p(?1_2)", []string{"by 0 ; new ?0_50 ; 0.5 q(?1_2, ?0_50) ; 0.6 r(?0_50)", "by 1 ; 0.5 true"}, []string{"by 0 ; new ?0_50 ; 0.5 q(1, ?0_50) ; 0.6 r(?0_50)"}},
			{"p(11)", []string{"by 0 ; new ?0_50 ; 0.5 q(11, ?0_50) ; 0.6 r(?0_50)"}, []string{"by 1 ; 0.5 true", "fails"}},
			{"p(-1)", []string{"by 1 ; 0.5 true"}, []string{"by 0 ; new ?0_50 ; 0.5 q(-1, ?0_50) ; 0.6 r(?0_50)", "fails"}},
			{"p(?0_2)", []string{"by 2"}, []string{"fails", "by 1 ; 0.5 true", ""}},
			{"p(b)", []string{"fails"}, []string{"", "by 2", "by 2 ; fails", "by 0 ; fails", "by -2 ; fails", "by 99 ; fails", "0.5 true", "new ?0_50 ; fails"}},
			{"p(?0_6)", nil, []string{"", "fails", "by 0", "by 1 ; 0.5 true", "by 2"}},
			{"s(?0_1, 1)", []string{"by 5 ; new ?0_50 ; new ?0_51 ; new ?0_52 ; new ?0_53 ; 0.5 ?0_50 = ?0_1 ; 0.6 ?0_51 = ?0_52 ; 0.7 q(?0_53, ?0_50) @ 1"}, []string{
				"by 5 ; new ?0_51 ; new ?0_50 ; new ?0_52 ; new ?0_53 ; 0.5 ?0_50 = ?0_1 ; 0.6 ?0_51 = ?0_52 ; 0.7 q(?0_53, ?0_50) @ 1",
				"by 5 ; new ?0_50 ; new ?0_51 ; new ?0_52 ; 0.5 ?0_50 = ?0_1 ; 0.6 ?0_51 = ?0_52 ; 0.7 q(?0_53, ?0_50) @ 1",
				"by 5 ; new ?0_50 ; new ?0_51 ; new ?0_51 ; new ?0_53 ; 0.5 ?0_50 = ?0_1 ; 0.6 ?0_51 = ?0_51 ; 0.7 q(?0_53, ?0_50) @ 1"}},
			{"t(?0_0)", nil, []string{"fails", "by 7"}},
			{"t(?1_6)", []string{"by 7"}, []string{"fails", "by 6 ; 0.5 r(1)"}},
			{"t(f(?0_0))", []string{"by 6 ; 0.5 r(?0_0)"}, []string{"by 7", "fails"}},
			{"t(h(?0_0))", []string{"fails"}, nil},
			{"u", []string{"by 8"}, []string{"", "fails", "by 8 ; fails", "by 8 ; 0.5 u"}},
			{"nobody", []string{"fails"}, []string{"", "by 0", "by 8"}},
			{"p(1, 2)", []string{"fails"}, []string{"by 0"}},
			{"1 + 2", []string{"fails"}, []string{""}},
			{"1 < 2", []string{"fails"}, []string{""}},
			{"true(1)", []string{"fails"}, []string{""}},
			{"integer(1)", []string{"fails"}, []string{""}},
		},
		"goals that are followed": {
			{"?1_8 @ 1", []string{"0.5 ?1_8"}, []string{"0.5 p(3)"}},
		},
	}
}

// spoilt are commits that are like one, but for one thing, by which none of them is a reduction, whatever the goal is.
func spoilt(c api.Commit) map[string]api.Commit {
	all := map[string]api.Commit{}
	put := func(what string, change func(c *api.Commit)) {
		k := c
		k.Fresh, k.Bound, k.Goals = slices.Clone(c.Fresh), slices.Clone(c.Bound), slices.Clone(c.Goals)
		change(&k)
		all[what] = k
	}
	for _, node := range []int{-1, 1, 2, api.MaxNodes, math.MinInt, math.MaxInt} {
		if node != 1 || len(c.Fresh)+len(c.Goals) > 0 {
			put(fmt.Sprint("the node ", node), func(c *api.Commit) { c.Node = node })
		}
	}
	for _, clause := range []int{-2, math.MinInt, math.MaxInt, 10} {
		put(fmt.Sprint("the clause ", clause), func(c *api.Commit) { c.Clause = clause })
	}
	for _, x := range []api.Term{nil, atom("another"), number(1), append(slices.Clone(c.Goal.Term), c.Goal.Term...), variable(1, 1)} {
		put(fmt.Sprint("the term ", x), func(c *api.Commit) { c.Goal.Term = x })
	}
	put("one more variable", func(c *api.Commit) { c.Fresh = append(c.Fresh, name(0, 77)) })
	put("one more binding", func(c *api.Commit) { c.Bound = append(c.Bound, api.Binding{Var: name(0, 0), Term: number(7)}) })
	put("a binding of nothing", func(c *api.Commit) { c.Bound = append(c.Bound, api.Binding{}) })
	put("one more goal", func(c *api.Commit) { c.Goals = append(c.Goals, goal(0, 77, atom("true"))) })
	put("a goal of nothing", func(c *api.Commit) { c.Goals = append(c.Goals, api.Goal{Name: name(0, 77)}) })
	for i := range c.Goals {
		for _, n := range []api.Name{name(1, 5), name(-1, 5), name(0, -1), name(0, math.MinInt), name(0, 0), name(0, 100000)} {
			put(fmt.Sprint("the goal ", i, " as ", n), func(c *api.Commit) { c.Goals[i].Name = n })
		}
		put(fmt.Sprint("no goal ", i), func(c *api.Commit) { c.Goals = slices.Delete(c.Goals, i, i+1) })
		put(fmt.Sprint("the goal ", i, " twice"), func(c *api.Commit) { c.Goals = slices.Insert(c.Goals, i, c.Goals[i]) })
		put(fmt.Sprint("the goal ", i, " as the first"), func(c *api.Commit) { c.Goals[i].Name = c.Goals[0].Name; c.Goals[0].Name = c.Goals[len(c.Goals)-1].Name })
		for _, x := range []api.Term{nil, number(77), append(slices.Clone(c.Goals[i].Term), c.Goals[i].Term...)} {
			put(fmt.Sprint("the goal ", i, " with ", x), func(c *api.Commit) { c.Goals[i].Term = x })
		}
	}
	if len(c.Goals) < 2 {
		delete(all, "the goal 0 as the first")
	}
	for i := range c.Fresh {
		for _, n := range []api.Name{name(1, 50), name(-1, 50), name(0, -1), name(0, math.MinInt), name(0, 0), name(0, 1)} {
			put(fmt.Sprint("the variable ", i, " as ", n), func(c *api.Commit) { c.Fresh[i] = n })
		}
		put(fmt.Sprint("no variable ", i), func(c *api.Commit) { c.Fresh = slices.Delete(c.Fresh, i, i+1) })
	}
	for i := range c.Bound {
		put(fmt.Sprint("the binding ", i, " twice"), func(c *api.Commit) { c.Bound = append(c.Bound, c.Bound[i]) })
		for _, v := range []api.Name{name(0, -1), name(-1, 0), name(0, 1), name(3, 3), name(math.MaxInt, math.MinInt)} {
			put(fmt.Sprint("the binding ", i, " of ", v), func(c *api.Commit) { c.Bound[i].Var = v })
		}
		for _, x := range []api.Term{nil, {}, number(77), variable(-1, 0), variable(1, 99), {{Kind: api.Var, Text: "a"}}} {
			put(fmt.Sprint("the binding ", i, " to ", x), func(c *api.Commit) { c.Bound[i].Term = x })
		}
	}
	return all
}

// behind holds what a machine tells behind a reduction against what it told ahead of it.
func behind(t *testing.T, m, k *model.Model, c api.Commit) {
	t.Helper()
	want := slices.DeleteFunc(m.Goals(), func(g api.Goal) bool { return g.Name == c.Goal.Name })
	want = append(want, c.Goals...)
	slices.SortFunc(want, func(a, b api.Goal) int {
		if term.Less(a.Name, b.Name) {
			return -1
		}
		return 1
	})
	if !sameGoals(k.Goals(), want) {
		t.Errorf("%v: goals %v, want %v", c, k.Goals(), want)
	}
	h := m.Heap()
	for _, b := range c.Bound {
		h.Bind(b.Var, b.Term)
	}
	if fmt.Sprint(h.Bindings()) != fmt.Sprint(k.Heap().Bindings()) {
		t.Errorf("%v: bindings %v", c, k.Heap().Bindings())
	}
	if k.Failed() != (m.Failed() || c.Fails) {
		t.Errorf("%v: failed %v", c, k.Failed())
	}
	refuse(t, k, c, api.ErrGoal)
	// All its names are used from then on.
	for _, g := range append(slices.Clone(c.Goals), c.Goal) {
		if e := k.Fork().Submit(goal(g.Name.Node, g.Name.Number, atom("p"))); e != api.ErrForm {
			t.Errorf("%v: a goal %v again: %v", c, g.Name, e)
		}
	}
	refuse(t, k, api.Commit{Node: c.Node, Goal: c.Goal, Clause: -1, Fails: true}, api.ErrGoal)
}

func TestKindsOfGoals(t *testing.T) {
	for kind, rows := range kinds() {
		for _, r := range rows {
			m := machineOf(t, 2, clauses, r.goal, "u", "p(?0_7)")
			know(t, m, values()...)
			g := m.Goals()[0]
			if open := slices.ContainsFunc(m.Open(), func(o api.Goal) bool { return sameGoal(o, g) }); open != (len(r.right) > 0) {
				t.Errorf("%s: %s: open %v", kind, r.goal, open)
			}
			for _, text := range r.right {
				c, k := commitOf(t, 0, g, text), m.Fork()
				if e := k.Take(c); e != api.OK {
					t.Errorf("%s: %s: %s: %v", kind, r.goal, text, e)
					continue
				}
				behind(t, m, k, c)
				for what, c := range spoilt(c) {
					before := state(m)
					if e := m.Take(c); e != api.ErrTrace || state(m) != before {
						t.Errorf("%s: %s: %s with %s: %v", kind, r.goal, text, what, e)
					}
				}
				// Any node may do it, if the names are that node's.
				if !strings.Contains(text, "0.") && !strings.Contains(text, "new") {
					take(t, m.Fork(), commitOf(t, 1, g, text))
				}
			}
			for _, text := range r.rest {
				refuse(t, m, commitOf(t, 0, g, text), api.ErrTrace)
			}
		}
	}
}

// TestGoalsFollowed: a goal's term may be a variable, if it came by G @ P.
func TestGoalsFollowed(t *testing.T) {
	m := machineOf(t, 2, clauses, "?0_6 @ 0", "?1_8 @ 1", "?0_1 @ 0", "3 @ 0", "?0_9 @ 0")
	know(t, m, values()...)
	for i, g := range m.Goals() {
		take(t, m, api.Commit{Goal: g, Clause: -1, Goals: []api.Goal{goal(0, 10+i, g.Term[1:2])}})
	}
	l := m.Goals()
	if !sameGoals(m.Open(), l[1:]) || len(l) != 5 {
		t.Error(l, m.Open())
	}
	for _, text := range []string{"", "fails", "by 0", "?0_0 := p(1)", "by 1 ; 0.50 true"} {
		refuse(t, m, commitOf(t, 0, l[0], text), api.ErrTrace)
	}
	for i, texts := range [][]string{
		{}, {"by 1 ; 0.50 true", "by 0 ; new ?0_50 ; 0.50 q(3, ?0_50) ; 0.51 r(?0_50)"}, {"fails"}, {"fails"}, {""},
	} {
		for _, text := range []string{"", "fails", "by 1 ; 0.50 true", "by 0 ; new ?0_50 ; 0.50 q(3, ?0_50) ; 0.51 r(?0_50)", "by 0"} {
			want := api.ErrTrace
			if slices.Contains(texts, text) {
				want = api.OK
			}
			if e := m.Fork().Take(commitOf(t, 0, l[i], text)); e != want {
				t.Errorf("%v: %s: %v", l[i], text, e)
			}
		}
		// The goal is told as it stands.
		c := commitOf(t, 0, l[i], "fails")
		c.Goal.Term = m.Heap().Deref(l[i].Term)
		if !term.Equal(c.Goal.Term, l[i].Term) {
			refuse(t, m, c, api.ErrTrace)
		}
	}
	g := goal(1, 0, termOf(t, "?0_0 = r(1)"))
	submit(t, m, g)
	take(t, m, commitOf(t, 0, g, "?0_0 := r(1)"))
	if !sameGoals(m.Open(), l) {
		t.Error(m.Open())
	}
	take(t, m, commitOf(t, 0, l[0], "by 4"))
}

// TestEquationsToMaxCells: a part that has MaxCells cells is left; with one more the equation fails.
func TestEquationsToMaxCells(t *testing.T) {
	for _, sizes := range [][2]int{{127, 128}, {128, 127}, {128, 128}, {200, 200}, {2, 253}, {253, 2}, {3, 253}, {253, 3}, {253, 253}} {
		m := machineOf(t, 1, "", "?0_8 = ?0_9", "true")
		left, right := nested(sizes[0], atom("a")), nested(sizes[1], number(1))
		for i, x := range []api.Term{left, right} {
			g := goal(0, 20+i, structure("=", variable(0, 8+i), structure("g", x)))
			submit(t, m, g)
			take(t, m, api.Commit{Goal: g, Clause: -1, Bound: []api.Binding{{Var: name(0, 8+i), Term: structure("g", x)}}})
		}
		g := m.Goals()[0]
		part := structure("=", left, right)
		fails := commitOf(t, 0, g, "fails")
		parts := api.Commit{Goal: g, Clause: -1, Goals: []api.Goal{goal(0, 90, part)}}
		if len(part) > api.MaxCells {
			refuse(t, m, parts, api.ErrTrace)
			take(t, m, fails)
		} else {
			refuse(t, m, fails, api.ErrTrace)
			take(t, m, parts)
		}
	}
}

// TestLongPartsOfOneValue: where a variable leads both sides to a structure whose equations are too long, it may go, or fail.
func TestLongPartsOfOneValue(t *testing.T) {
	x := structure("g", atom("a"), nested(200, atom("a")), number(1))
	m := machineOf(t, 1, "", "?0_8 = ?0_9", "true")
	for i, v := range []api.Term{x, variable(0, 8)} {
		g := goal(0, 20+i, structure("=", variable(0, 8+i), v))
		submit(t, m, g)
		take(t, m, api.Commit{Goal: g, Clause: -1, Bound: []api.Binding{{Var: name(0, 8+i), Term: v}}})
	}
	g := m.Goals()[0]
	for _, text := range []string{"", "fails"} {
		take(t, m.Fork(), commitOf(t, 0, g, text))
	}
	for _, text := range []string{"by 0", "by 0 ; fails", "?0_9 := ?0_8", "0.50 a = a", "0.50 a = a ; 0.51 1 = 1", "fails ; 0.50 a = a"} {
		refuse(t, m, commitOf(t, 0, g, text), api.ErrTrace)
	}
}

// TestBodiesTooLong: a call whose body would be too long fails by its clause, without new variables, or goes by another one.
func TestBodiesTooLong(t *testing.T) {
	const program = "p(X) :- r(Y), q(X, X, Y, Z). p(X) :- r(X). p(f(X)) :- q(X, X, X, X). q(A, B, C, D). r(X)."
	for _, size := range []int{125, 126, 127, 128, 200, 255} {
		m := machineOf(t, 1, program, "true")
		x := nested(size, atom("a"))
		g := goal(0, 1, structure("p", x))
		submit(t, m, g)
		long := structure("q", x, x, variable(0, 7), variable(0, 8))
		r := goal(0, 9, structure("r", variable(0, 7)))
		fresh := []api.Name{name(0, 7), name(0, 8)}
		goes := api.Commit{Goal: g, Fresh: fresh, Goals: []api.Goal{r, goal(0, 10, long)}}
		fails := commitOf(t, 0, g, "by 0 ; fails")
		if len(long) <= api.MaxCells {
			take(t, m.Fork(), goes)
			refuse(t, m, fails, api.ErrTrace)
		} else {
			refuse(t, m, goes, api.ErrTrace)
			k := m.Fork()
			take(t, k, fails)
			if !k.Failed() || m.Failed() || len(k.Goals()) != 1 {
				t.Error(k.Failed(), m.Failed(), k.Goals())
			}
		}
		if l := m.Open(); len(l) != 2 {
			t.Error(l)
		}
		take(t, m.Fork(), api.Commit{Goal: g, Clause: 1, Goals: []api.Goal{goal(0, 9, structure("r", x))}})
		take(t, m.Fork(), commitOf(t, 0, g, "by 2 ; fails"))
		for _, c := range []api.Commit{
			commitOf(t, 0, g, "fails"), commitOf(t, 0, g, "by 1 ; fails"), commitOf(t, 0, g, "by 3 ; fails"), commitOf(t, 0, g, "by 0"),
			{Goal: g, Fails: true, Fresh: fresh}, {Goal: g, Fails: true, Fresh: fresh[:1]}, {Goal: g, Fails: true, Goals: []api.Goal{r}},
			{Goal: g, Fails: true, Bound: []api.Binding{{Var: name(0, 0), Term: number(1)}}}, {Goal: g, Fresh: fresh, Goals: []api.Goal{r}}, {Goal: g, Fresh: fresh},
			{Goal: g, Fails: true, Fresh: fresh, Goals: goes.Goals}, {Node: 1, Goal: g, Fails: true}, {Node: -1, Goal: g, Fails: true},
		} {
			refuse(t, m, c, api.ErrTrace)
		}
	}
}

// TestNewNames: names of goals and of variables are apart from one another; each is new once.
func TestNewNames(t *testing.T) {
	m := machineOf(t, 3, "p :- q(X, Y), q(Y, Z). q(X, Y).", "p", "p", "q(?0_0, f(?2_8))")
	p := m.Goals()[0]
	commit := func(g api.Goal, a, b int, fresh ...int) api.Commit {
		c := api.Commit{Node: 2, Goal: g}
		for _, n := range fresh {
			c.Fresh = append(c.Fresh, name(2, n))
		}
		v := func(i int) api.Term { return api.Term{{Kind: api.Var, Var: c.Fresh[i]}} }
		c.Goals = []api.Goal{goal(2, a, structure("q", v(0), v(1))), goal(2, b, structure("q", v(1), v(2)))}
		return c
	}
	for _, c := range []api.Commit{
		commit(p, 5, 5, 0, 1, 2), commit(p, 5, 6, 0, 0, 2), commit(p, 5, 6, 0, 1, 0), commit(p, 5, 6, 0, 1, 1), commit(p, -1, 6, 0, 1, 2),
		commit(p, 5, 6, 8, 1, 2), commit(p, 5, 6, 0, 1, 8), commit(p, 5, 6, 0, -1, 2), commit(p, 5, math.MinInt, 0, 1, 2), commit(p, 5, 6, 0, 1, 2, 3),
	} {
		refuse(t, m, c, api.ErrTrace)
	}
	take(t, m.Fork(), commit(p, 8, 0, 0, 2, 1), commit(m.Goals()[1], 5, 6, 5, 6, math.MaxInt))
	take(t, m, commit(p, 0, math.MaxInt, math.MaxInt, 5, 0))
	second := m.Goals()[0]
	for _, c := range []api.Commit{
		commit(second, 0, 1, 1, 2, 3), commit(second, 1, math.MaxInt, 1, 2, 3), commit(second, 1, 2, 5, 1, 2), commit(second, 1, 2, 1, 0, 2),
		commit(second, 1, 2, 1, 2, math.MaxInt), commit(second, 1, 1, 1, 2, 3), commit(p, 1, 2, 1, 2, 3),
	} {
		want := api.ErrTrace
		if c.Goal.Name == p.Name {
			want = api.ErrGoal
		}
		refuse(t, m, c, want)
	}
	// A submitted goal's variables need not be new, and are used then.
	submit(t, m, goal(1, 0, termOf(t, "q(?2_5, ?2_6)")))
	refuse(t, m, commit(second, 1, 2, 1, 2, 6), api.ErrTrace)
	take(t, m, commit(second, 1, 2, 1, 2, 3))
}

// TestGoalsThatAreNotThere: which goal it is tells its name; one that is there with another term is no reduction.
func TestGoalsThatAreNotThere(t *testing.T) {
	m := machineOf(t, 2, "p(X).", "p(1)", "true")
	for _, g := range []api.Goal{
		goal(0, 2, termOf(t, "p(1)")), goal(1, 0, termOf(t, "p(1)")), goal(0, -1, termOf(t, "p(1)")), goal(-1, 0, termOf(t, "p(1)")),
		goal(math.MaxInt, math.MinInt, nil), {Name: name(0, 7)},
	} {
		for _, c := range []api.Commit{{Goal: g}, {Goal: g, Node: -7, Clause: 99, Fails: true}, {Goal: g, Goals: []api.Goal{g, g}}} {
			refuse(t, m, c, api.ErrGoal)
		}
	}
	for _, x := range []api.Term{nil, {}, number(1), atom("p"), termOf(t, "p(2)"), termOf(t, "p(1, 1)"), atom("true"), {{Kind: api.Struct, Text: "p", N: 1}}} {
		refuse(t, m, api.Commit{Goal: goal(0, 0, x)}, api.ErrTrace)
		refuse(t, m, api.Commit{Goal: goal(0, 0, x), Clause: -1, Fails: true}, api.ErrTrace)
	}
	take(t, m, api.Commit{Goal: m.Goals()[0]})
}

func TestNilMachine(t *testing.T) {
	var m *model.Model
	if e := m.Submit(goal(0, 0, atom("p"))); e != api.ErrNil {
		t.Error(e)
	}
	if e := m.Submit(api.Goal{}); e != api.ErrNil {
		t.Error(e)
	}
	for _, c := range []api.Commit{{}, {Goal: goal(0, 0, atom("true")), Clause: -1}, {Node: -1, Fails: true}} {
		if e := m.Take(c); e != api.ErrNil {
			t.Error(e)
		}
	}
	if len(m.Goals()) != 0 || len(m.Open()) != 0 || m.Failed() || m.Heap() != nil || m.Fork() != nil {
		t.Error("a nil machine tells something")
	}
}
