package trace_test

import (
	"fmt"
	"math"
	"slices"
	"testing"

	"purlin/api"
	"purlin/model"
	"purlin/trace"
)

// The calls have the forms that chapter 22 lists.
var (
	_ func(api.Program, int, []api.Goal, ...api.Commit) (api.Errno, int)            = trace.Check
	_ func(api.Program, int, []api.Goal, ...api.Commit) (*model.Model, api.Errno)   = trace.After
	_ func(api.Program, int, []api.Goal, ...[]api.Commit) ([]api.Commit, api.Errno) = trace.Merge
	_ func(int, ...api.Commit) [][]api.Commit                                       = trace.Rows
	_ func(...api.Commit) (api.Name, bool)                                          = trace.Owners
	_ func(...api.Commit) (api.Name, bool)                                          = trace.Twice
	_ func(api.Commit) (string, api.Errno)                                          = trace.Print
)

// tells asks what Check, After and Merge tell of commits.
func tells(t *testing.T, p api.Program, nodes int, submitted []api.Goal, l []api.Commit, want api.Errno, at int) {
	t.Helper()
	if e, n := trace.Check(p, nodes, submitted, l...); e != want || n != at {
		t.Errorf("Check: %v, %d; want %v, %d", e, n, want, at)
	}
	m, e := trace.After(p, nodes, submitted, l...)
	if e != want || (m == nil) != (want != api.OK) {
		t.Errorf("After: %v, %v; want %v", m, e, want)
	}
	if want == api.ErrGoal { // a commit that has no goal yet may have one later
		return
	}
	if merged, e := trace.Merge(p, nodes, submitted, l); e != want || want == api.OK && !same(merged, l) || want != api.OK && len(merged) > 0 {
		t.Errorf("Merge: %v, %v; want %v", merged, e, want)
	}
}

func TestExample(t *testing.T) {
	p, submitted, l := ofExample(t)
	for n := range len(l) + 1 {
		tells(t, p, 2, submitted, l[:n], api.OK, n)
	}
	tells(t, p, 2, submitted, l[2:], api.ErrGoal, 0)
	tells(t, p, 2, submitted, slices.Concat(l[2:], l[:2]), api.ErrGoal, 0)
	tells(t, p, 2, submitted, slices.Concat(l[:1], l[2:]), api.ErrGoal, 1)
	tells(t, p, 2, submitted, append(l[:6:6], l[5]), api.ErrGoal, 6)
	tells(t, p, 2, submitted, append(l[:6:6], l[0]), api.ErrGoal, 6)
	m := isRun(t, p, 2, submitted, l...)
	if len(m.Goals()) > 0 || m.Failed() || fmt.Sprint(m.Heap().Bindings()) != fmt.Sprint(l[4].Bound) {
		t.Error(state(m))
	}
	if s, e := trace.Print(l[0]); s != "0: 0.0 p(2) by 0 ; 0.1 q(2) @ 1" || e != api.OK {
		t.Error(s, e)
	}
}

func TestBeginErrors(t *testing.T) {
	p, submitted, l := ofExample(t)
	head := api.Program{{Head: api.Term{{Kind: api.Int, N: 1}}}}
	body := programOf(t, "p :- q. q.")[:1]
	wrong := []api.Goal{{}}
	tells(t, head, 2, submitted, l, api.ErrHead, 0)
	tells(t, body, 0, wrong, l[3:], api.ErrPred, 0)
	for _, nodes := range []int{0, -1, api.MaxNodes + 1, math.MaxInt, math.MinInt} {
		tells(t, p, nodes, submitted, l, api.ErrRange, 0)
		tells(t, p, nodes, wrong, l[3:], api.ErrRange, 0)
		tells(t, head, nodes, wrong, nil, api.ErrHead, 0)
	}
	for _, g := range []api.Goal{
		{}, {Term: api.Term{}}, {Term: termOf(t, "7")}, {Term: termOf(t, "?0_0")}, {Term: termOf(t, "p(X)")}, {Term: api.Term{{Kind: api.Atom, Text: "P"}}}, {Term: append(termOf(t, "p"), termOf(t, "q")...)},
		{Name: name(2, 0), Term: termOf(t, "p")}, {Name: name(-1, 0), Term: termOf(t, "p")}, {Name: name(0, 5), Term: termOf(t, "p(?2_0)")}, goalOf(t, "0.0 q(1)"),
	} {
		tells(t, p, 2, append(submitted[:1:1], g), l, api.ErrForm, 0)
		tells(t, p, 2, []api.Goal{goalOf(t, "0.0 q(1)"), g, g}, l[3:], api.ErrForm, 0)
	}
	tells(t, p, 1, submitted, nil, api.OK, 0)
	tells(t, p, api.MaxNodes, nil, nil, api.OK, 0)
	tells(t, nil, 2, nil, nil, api.OK, 0)
	tells(t, nil, 2, nil, l[:1], api.ErrGoal, 0)
	tells(t, api.Program{}, 2, []api.Goal{}, []api.Commit{}, api.OK, 0)
	if m, e := trace.Merge(p, 2, submitted); len(m) > 0 || e != api.OK {
		t.Error(m, e)
	}
	if m, e := trace.Merge(p, 2, submitted, nil, []api.Commit{}, nil); len(m) > 0 || e != api.OK {
		t.Error(m, e)
	}
}

// TestCommitsThatAreNone: the first of them is told, behind those that are.
func TestCommitsThatAreNone(t *testing.T) {
	p, submitted, l := ofExample(t)
	for _, line := range []string{
		"2: 0.2 q(2) by 1 ; 1.0 ?1_0 := 2 + 1 ; 1.1 r(?1_0) & ?1_0", "1: 0.2 q(2) by 0 ; 1.0 ?1_0 := 2 + 1 ; 1.1 r(?1_0) & ?1_0", "1: 0.2 q(2) ; 1.0 ?1_0 := 2 + 1 ; 1.1 r(?1_0) & ?1_0",
		"1: 0.2 q(2) by 1 ; 1.1 r(?1_0) ; 1.0 ?1_0 := 2 + 1 & ?1_0", "1: 0.2 q(2) by 1 ; 1.0 ?1_0 := 2 + 1 ; 1.1 r(?1_0)", "1: 0.2 q(2) by 1 ; 0.9 ?1_0 := 2 + 1 ; 1.1 r(?1_0) & ?1_0",
		"1: 0.2 q(2) fails", "1: 0.2 q(3) by 1 ; 1.0 ?1_0 := 3 + 1 ; 1.1 r(?1_0) & ?1_0", "1: 0.2 q(2) by 64", "1: 0.2 q(2) by -2",
	} {
		c := commitOf(t, line)
		tells(t, p, 2, submitted, append(l[:2:2], c, c), api.ErrTrace, 2)
	}
	tells(t, p, 2, submitted, append(l[:2:2], commitOf(t, "1: 0.3 q(2)")), api.ErrGoal, 2)
	tells(t, p, 2, submitted, append(l[:2:2], api.Commit{}), api.ErrGoal, 2)
	tells(t, p, 2, submitted, append(l[:2:2], api.Commit{Goal: api.Goal{Name: name(0, 2)}}), api.ErrTrace, 2)
	tells(t, p, 2, submitted, append(l[:2:2], api.Commit{Node: math.MinInt, Clause: math.MaxInt, Goal: l[2].Goal, Fresh: []api.Name{name(-5, -5)}, Bound: make([]api.Binding, 2), Goals: make([]api.Goal, 3)}), api.ErrTrace, 2)
	// Of another program, and of fewer nodes.
	tells(t, programOf(t, "p(X) :- X > 2 | q(X). q(2)."), 2, submitted, l, api.ErrTrace, 0)
	tells(t, p, 1, submitted, l, api.ErrTrace, 1)
}

func TestMergeOrder(t *testing.T) {
	p := programOf(t, "a. b. c(X). s(X) :- w(X). w(1). t(X) :- X = 1.")
	submitted := goalsOf(t, "0.0 a", "1.0 b", "0.1 s(?0_0)", "1.1 t(?0_0)")
	a, b := commitOf(t, "0: 0.0 a by 0"), commitOf(t, "1: 1.0 b by 1")
	s, w := commitOf(t, "0: 0.1 s(?0_0) by 3 ; 0.2 w(?0_0)"), commitOf(t, "0: 0.2 w(?0_0) by 4")
	u, bind := commitOf(t, "1: 1.1 t(?0_0) by 5 ; 1.2 ?0_0 = 1"), commitOf(t, "0: 1.2 ?0_0 = 1 ; ?0_0 := 1")
	type rows = [][]api.Commit
	for i, x := range []struct {
		rows rows
		want []api.Commit
	}{
		{rows{{a}, {b}}, []api.Commit{a, b}},
		{rows{{b}, {a}}, []api.Commit{b, a}},
		{rows{{a, s, w}, {b, u}, {bind}}, []api.Commit{a, s, b, u, bind, w}},
		{rows{{bind}, {b, u}, {a, s, w}}, []api.Commit{b, u, bind, a, s, w}},
		{rows{{w}, {s}, {bind}, {u}, {b}, {a}}, []api.Commit{s, u, bind, w, b, a}},
		{rows{{w, a, b}, nil, {u, s}, {}, {bind}}, []api.Commit{u, s, bind, w, a, b}},
		{rows{nil, {s, u, a, bind, b, w}}, []api.Commit{s, u, a, bind, b, w}},
	} {
		m, e := trace.Merge(p, 2, submitted, x.rows...)
		if e != api.OK || !same(m, x.want) {
			t.Errorf("%d: %v, %v", i, m, e)
		}
	}
	for i, l := range []rows{
		{{w, s, bind}, {u}}, {{a, a}}, {{a}, {a}}, {{w}, {s}}, {{bind}, {a, b}}, {{u, bind, {Clause: 9}}, {s, w}}, {{}, {{}}}, {{w}, {bind}, {u, s, w}},
	} {
		if m, e := trace.Merge(p, 2, submitted, l...); e != api.ErrTrace || len(m) > 0 {
			t.Errorf("%d: %v, %v", i, m, e)
		}
	}
}

func TestRows(t *testing.T) {
	var l []api.Commit
	for i, node := range []int{1, 0, -1, 3, 1, 4, math.MaxInt, math.MinInt, 0, 2, 1, 5} {
		l = append(l, api.Commit{Node: node, Clause: i})
	}
	want := [][]int{{1, 8}, {0, 4, 10}, {9}, {3}}
	for nodes, rows := range map[int]int{-1: 0, 0: 0, math.MinInt: 0, 1: 1, 2: 2, 3: 3, 4: 4, 5: 4, 6: 4, math.MaxInt: 4} {
		got := trace.Rows(nodes, l...)
		if len(got) != rows {
			t.Fatalf("%d nodes: %d rows", nodes, len(got))
		}
		for i, row := range got {
			var numbers []int
			for _, c := range row {
				if c.Node != i {
					t.Errorf("row %d has %v", i, c)
				}
				numbers = append(numbers, c.Clause)
			}
			if !slices.Equal(numbers, want[i]) {
				t.Errorf("%d nodes, row %d: %v", nodes, i, numbers)
			}
		}
	}
	if got := trace.Rows(3); len(got) != 3 || len(got[0])+len(got[1])+len(got[2]) > 0 {
		t.Error(got)
	}
}

// bound is a commit of a node and a goal that binds variables.
func bound(node, goal int, vars ...api.Name) api.Commit {
	c := api.Commit{Node: node, Goal: api.Goal{Name: name(0, goal)}}
	for _, v := range vars {
		c.Bound = append(c.Bound, api.Binding{Var: v})
	}
	return c
}

func TestOwners(t *testing.T) {
	for i, x := range []struct {
		l     []api.Commit
		v     api.Name
		there bool
	}{
		{nil, api.Name{}, false},
		{[]api.Commit{{}, bound(1, 0), bound(0, 0, name(0, 3)), bound(2, 0, name(2, 0), name(2, 0))}, api.Name{}, false},
		{[]api.Commit{bound(0, 0, name(1, 0))}, name(1, 0), true},
		{[]api.Commit{bound(0, 0, name(0, 1), name(-1, 4), name(2, 0)), bound(0, 0, name(1, 7))}, name(-1, 4), true},
		{[]api.Commit{bound(1, 0, name(1, 1)), bound(-3, 0, name(-3, 0)), bound(2, 0, name(1, 1)), bound(0, 0, name(1, 0))}, name(1, 1), true},
	} {
		if v, there := trace.Owners(x.l...); v != x.v || there != x.there {
			t.Errorf("%d: %v, %v", i, v, there)
		}
	}
}

func TestTwice(t *testing.T) {
	for i, x := range []struct {
		l     []api.Commit
		v     api.Name
		there bool
	}{
		{nil, api.Name{}, false},
		{[]api.Commit{bound(0, 0)}, api.Name{}, false},
		{[]api.Commit{bound(0, 0, name(0, 0)), bound(0, 1, name(0, 1)), bound(1, 2, name(1, 0))}, api.Name{}, false},
		{[]api.Commit{bound(0, 0, name(0, 5), name(0, 5))}, name(0, 5), true},
		{[]api.Commit{bound(0, 0, name(0, 5)), bound(0, 1, name(0, 6)), bound(1, 2, name(1, 6), name(0, 6), name(0, 5))}, name(0, 6), true},
		{[]api.Commit{bound(0, 7), bound(0, 7), bound(0, 0, name(0, 5)), bound(0, 1, name(0, 5))}, name(0, 5), true},
		{[]api.Commit{bound(0, 7), bound(0, 8), bound(1, 8), bound(2, 7)}, name(0, 8), true},
		{[]api.Commit{{}, {}}, name(0, 0), true},
		{[]api.Commit{bound(0, 0, name(0, 1)), bound(0, 1, name(0, 0))}, api.Name{}, false}, // a goal and a variable may have one name
	} {
		if v, there := trace.Twice(x.l...); v != x.v || there != x.there {
			t.Errorf("%d: %v, %v", i, v, there)
		}
	}
}

func TestPrint(t *testing.T) {
	for _, line := range []string{
		"0: 0.0 p(2) by 0 ; 0.1 q(2) @ 1", "1: 0.2 q(2) by 1 ; 1.0 ?1_0 := 2 + 1 ; 1.1 r(?1_0)", "3: 2.17 true", "0: 0.0 7 fails", "2: 0.5 p(0) fails", "0: 0.0 p(?0_1) fails by 3", "1: 1.2 ?1_0 = 3 ; ?1_0 := 3",
		"0: 1.0 ?0_0 = f(?0_1, X0) ; ?0_0 := f(?0_1, X0) ; ?0_2 := ?0_1 ; 0.1 a = b ; 0.2 (p @ 1) @ 2", "-4: -1.-9 p by -2", "1: 0.0 X0 by 63",
	} {
		c := commitOf(t, line)
		if s, e := trace.Print(c); s != line || e != api.OK {
			t.Errorf("%q, %v; want %q", s, e, line)
		}
	}
	for text, c := range map[string]api.Commit{
		"0: 0.0 a by 0":                {Goal: goalOf(t, "0.0 a")},
		"1: 0.0 a ; 1.0 ?1_0 := 2 + 1": {Node: 1, Clause: -1, Goal: goalOf(t, "0.0 a"), Goals: goalsOf(t, "1.0 ?1_0 := 2 + 1"), Fresh: []api.Name{name(1, 0)}},
		"0: 0.0 a fails by 4 ; X3 := 1 ; X-1 := 2 ; ?-2_-7 := 3 ; ?9_0 := b ; 5.5 c": {Fails: true, Clause: 4, Goal: goalOf(t, "0.0 a"), Goals: goalsOf(t, "5.5 c"), Bound: []api.Binding{
			{Var: name(-1, 3), Term: termOf(t, "1")}, {Var: name(-1, -1), Term: termOf(t, "2")}, {Var: name(-2, -7), Term: termOf(t, "3")}, {Var: name(9, 0), Term: termOf(t, "b")}}},
		"-9223372036854775808: 9223372036854775807.-9223372036854775808 a by -9223372036854775808": {Node: math.MinInt, Clause: math.MinInt, Goal: api.Goal{Name: name(math.MaxInt, math.MinInt), Term: termOf(t, "a")}},
	} {
		if s, e := trace.Print(c); s != text || e != api.OK {
			t.Errorf("%q, %v; want %q", s, e, text)
		}
	}
	good := commitOf(t, "0: 0.0 a ; ?0_0 := b ; ?0_1 := c ; 0.1 d ; 0.2 e")
	for i, wrong := range []api.Term{nil, {}, {{}}, {{Kind: api.Atom, Text: "A"}}, {{Kind: api.Struct, Text: "f", N: 2}, {Kind: api.Int}}, append(termOf(t, "a"), termOf(t, "b")...), {{Kind: api.Var, Var: name(-2, 0)}}, {{Kind: api.Int, N: api.MaxNumber + 1}}} {
		for place := range 5 {
			c := good
			c.Bound, c.Goals = slices.Clone(c.Bound), slices.Clone(c.Goals)
			*[]*api.Term{&c.Goal.Term, &c.Bound[0].Term, &c.Bound[1].Term, &c.Goals[0].Term, &c.Goals[1].Term}[place] = wrong
			if s, e := trace.Print(c); s != "" || e != api.ErrForm {
				t.Errorf("%d, %d: %q, %v", i, place, s, e)
			}
		}
	}
	if s, e := trace.Print(api.Commit{}); s != "" || e != api.ErrForm {
		t.Error(s, e)
	}
}
