package check_test

import (
	"math"
	"slices"
	"strconv"
	"strings"
	"testing"

	"purlin/api"
	"purlin/check"
	"purlin/syntax"
)

// The calls have the forms that chapter 4 lists.
var (
	_ func(api.Program) api.Errno                 = check.Program
	_ func(api.Program) (int, api.Errno)          = check.Where
	_ func(api.Term) bool                         = check.IsSum
	_ func(api.Term) bool                         = check.IsGuard
	_ func(api.Term) bool                         = check.IsGoal
	_ func(...api.Program) []check.Pred           = check.Preds
	_ func(api.Program, string, int) []int        = check.Clauses
	_ func(api.Program, int) []check.Pred         = check.Calls
	_ func(api.Program, ...api.Term) []check.Pred = check.Reached
	_                                             = check.Pred{Name: "p", Arity: 1}
)

func program(t *testing.T, text string) api.Program {
	t.Helper()
	p, e, at := syntax.Program(text)
	if e != api.OK {
		t.Fatalf("%q: %v at %d", text, e, at)
	}
	return p
}

func termOf(t *testing.T, text string) api.Term {
	t.Helper()
	x, _, e, at := syntax.Term(text)
	if e != api.OK {
		t.Fatalf("%q: %v at %d", text, e, at)
	}
	return x
}

// preds reads predicates: p/1 q/0.
func preds(text string) []check.Pred {
	var l []check.Pred
	for _, s := range strings.Fields(text) {
		name, arity, _ := strings.Cut(s, "/")
		n, _ := strconv.Atoi(arity)
		l = append(l, check.Pred{Name: name, Arity: n})
	}
	return l
}

func atom(s string) api.Term { return api.Term{{Kind: api.Atom, Text: s}} }

// notRight are terms that are none, each for a reason of its own.
func notRight() []api.Term {
	f := func(n int) api.Cell { return api.Cell{Kind: api.Struct, Text: "f", N: n} }
	return []api.Term{
		nil, {}, {{}}, {{Kind: 9}}, {{Kind: api.Int, N: api.MaxNumber + 1}}, {{Kind: api.Int, N: 1, Text: "+"}},
		{{Kind: api.Atom}}, {{Kind: api.Atom, Text: "="}}, {{Kind: api.Atom, Text: "true", N: 1}}, {{Kind: api.Var, Var: api.Name{Node: -2}}},
		{{Kind: api.Var, Var: api.Name{Node: -1, Number: -1}}}, {f(0)}, {f(1)}, {f(-1)}, {f(math.MaxInt)}, {f(math.MinInt)},
		{{Kind: api.Struct, Text: "=", N: 2}}, {{Kind: api.Struct, Text: "@", N: 2}}, {{Kind: api.Struct, Text: ":=", N: 2}},
		{{Kind: api.Struct, Text: "@", N: 1}, {Kind: api.Atom, Text: "a"}}, {{Kind: api.Struct, Text: "<", N: 2}, {Kind: api.Int}},
		{{Kind: api.Struct, Text: "@", N: 2}, {Kind: api.Atom, Text: "a"}}, {{Kind: api.Struct, Text: "integer", N: 1}},
		{{Kind: api.Int}, {Kind: api.Int}}, slices.Concat(atom("a"), atom("a")), slices.Concat(atom("true"), atom("true")),
		slices.Repeat(atom("a"), 300), append(slices.Repeat(api.Term{f(1)}, api.MaxCells), atom("a")...),
	}
}

func TestSums(t *testing.T) {
	for text, want := range map[string]bool{
		"0": true, "-2147483648": true, "X": true, "?1_7": true, "1 + 2": true, "X - ?0_0": true, "2 * 3": true,
		"div(1, 2)": true, "mod(X, 2)": true, "min(1, 2)": true, "max(1, 2)": true, "abs(X)": true,
		"1 + 2 * X - abs(mod(div(1, 2), min(X, max(3, 4))))": true,
		"a": false, "true": false, "div": false, "abs": false, "f(1)": false, "f(1, 2)": false, "1 + a": false, "a + 1": false,
		"abs(1, 2)": false, "div(1)": false, "mod(1, 2, 3)": false, "min(1)": false, "max(1, 2, 3)": false, "abs(f(1))": false,
		"1 = 2": false, "X := 1": false, "1 @ 2": false, "1 < 2": false, "1 + (1 < 2)": false, "abs(1 = 1)": false,
		"integer(1)": false, "1 * (2 - f)": false, "div(1, a)": false, "div(a, 1)": false, "max(abs(a), 1)": false,
	} {
		if got := check.IsSum(termOf(t, text)); got != want {
			t.Errorf("IsSum(%s): %v", text, got)
		}
	}
}

func TestGuards(t *testing.T) {
	for text, want := range map[string]bool{
		"true": true, "1 < 2": true, "X =< 1": true, "X > Y": true, "X >= 0": true, "X =:= 1 + 2": true, "abs(X) =\\= mod(X, 2)": true,
		"integer(X)": true, "atom(a)": true, "compound(1)": true, "known(X)": true, "known(true)": true, "known(?1_0)": true,
		"equal(X, Y)": true, "unlike(a, 1)": true, "equal(1, X)": true, "unlike(?0_0, a)": true, "integer(integer)": true,
		"false": false, "true(1)": false, "a": false, "1": false, "X": false, "integer": false, "equal": false, "f(X)": false,
		"1 < a": false, "a < 1": false, "X > f(1)": false, "1 =< (1 < 2)": false, "X = 1": false, "X := 1": false, "true @ 1": false,
		"1 + 2": false, "abs(1)": false, "integer(f(X))": false, "atom(1 + 2)": false, "compound(f(a))": false, "known(X = Y)": false,
		"integer(X, Y)": false, "known(1, 2, 3)": false, "equal(X)": false, "equal(f(X), Y)": false, "equal(X, f(Y))": false,
		"unlike(X, 1 + 1)": false, "unlike(1, 2, 3)": false, "equal(f(a))": false, "unlike(f(f(a)))": false, "atom(f(a, b))": false,
	} {
		if got := check.IsGuard(termOf(t, text)); got != want {
			t.Errorf("IsGuard(%s): %v", text, got)
		}
	}
}

func TestGoals(t *testing.T) {
	for text, want := range map[string]bool{
		"true": true, "a": true, "f(X)": true, "f(g(1 < 2), a @ 9)": true, "true(1)": true, "integer(X)": true, "equal(f(a), 1)": true, "div(a, b)": true,
		"X = Y": true, "1 = 2": true, "(a @ 1) = f(X := a)": true, "X := 1": true, "X := Y + abs(Z)": true, "?0_0 := 1": true,
		"3 := 1 + 2": true, "f(a) := 1": true,
		"a @ 0": true, "a @ 3": true, "f(X) @ X": true, "true @ 1": true, "f @ ?1_0": true, "(X = Y) @ 1": true, "(X := 1 + Y) @ 2": true, "f(a @ 1) @ 2": true,
		"1": false, "X": false, "?0_0": false, "1 < 2": false, "1 =:= 1": false, "1 =\\= 2": false, "X > 1": false, "X >= 1": false, "X =< 1": false,
		"X + 1": false, "1 - 2": false, "1 * 2": false,
		"X := a": false, "X := f(1)": false, "X := 1 + a": false, "X := (1 = 1)": false, "X := (Y := 1)": false,
		"a @ 4": false, "a @ -1": false, "a @ a": false, "a @ 1 + 1": false, "a @ f(1)": false, "1 @ 1": false, "X @ 1": false,
		"(a @ 1) @ 1": false, "((a @ 1) @ 1) @ 1": false, "X := a @ 1": false, "1 < 2 @ 1": false, "X + 1 @ 1": false, "(X := a) @ 0": false,
	} {
		if got := check.IsGoal(termOf(t, text)); got != want {
			t.Errorf("IsGoal(%s): %v", text, got)
		}
	}
}

func TestKindsOfWhatIsNotRight(t *testing.T) {
	for _, x := range notRight() {
		if check.IsSum(x) || check.IsGuard(x) || check.IsGoal(x) {
			t.Errorf("%v: %v, %v, %v", x, check.IsSum(x), check.IsGuard(x), check.IsGoal(x))
		}
	}
}

func TestWhere(t *testing.T) {
	for text, want := range map[string]struct {
		clause int
		e      api.Errno
	}{
		"":                                    {0, api.OK},
		"p.":                                  {0, api.OK},
		"p(X) :- X = f(Y), q(Y) @ 1. q(a).":   {0, api.OK},
		"p(X) :- X > 0 | p(X).":               {0, api.OK},
		"p :- p(1). p(X) :- p. p(X, Y).":      {0, api.OK},
		"true(X). p :- true(1), true.":        {0, api.OK},
		"p(f(X, g(Y)), X1) :- Y > X1 | true.": {0, api.OK},
		"p(X) :- equal(X, a), unlike(1, X), known(X), true | X := 3 * X, Z = X.": {0, api.OK},
		"integer(X) :- integer(X) | integer(X).":                                 {0, api.OK},
		"p(X, X).":                                                               {0, api.ErrHead},
		"p. p(f(X), g(f(X))).":                                                   {1, api.ErrHead},
		"true.":                                                                  {0, api.ErrHead},
		"p. true :- p.":                                                          {1, api.ErrHead},
		"p(X) :- Y > 0 | true.":                                                  {0, api.ErrGuard},
		"p(X) :- X > f(1) | true.":                                               {0, api.ErrGuard},
		"p. p(X) :- X = 1 | true.":                                               {1, api.ErrGuard},
		"p(X) :- X > 0, q | true. q.":                                            {0, api.ErrGuard},
		"p(X) :- equal(X, Y) | true.":                                            {0, api.ErrGuard},
		"p :- known(_) | true.":                                                  {0, api.ErrGuard},
		"p(X) :- X + 1.":                                                         {0, api.ErrBody},
		"p. p(X) :- p, X.":                                                       {1, api.ErrBody},
		"p(X) :- q(X) @ 4. q(X).":                                                {0, api.ErrBody},
		"p :- 1 < 2.":                                                            {0, api.ErrBody},
		"p :- true | (p @ 1) @ 2.":                                               {0, api.ErrBody},
		"p(X) :- q(X).":                                                          {0, api.ErrPred},
		"p. p(X) :- p, q(X) @ X.":                                                {1, api.ErrPred},
		"p(X) :- p.":                                                             {0, api.ErrPred},
		"p :- p(1). p(X, Y).":                                                    {0, api.ErrPred},
		"p :- integer(1).":                                                       {0, api.ErrPred},
		"p :- true(1).":                                                          {0, api.ErrPred},
		"p(q) :- p(q), q.":                                                       {0, api.ErrPred},
		"p(?0_0).":                                                               {0, api.ErrForm},
		"p. p(X) :- X > ?1_0 | true.":                                            {1, api.ErrForm},
		"p. p. p :- p(?0_0).":                                                    {2, api.ErrForm},

		"p(X) :- q(X). p(X) :- X + 1. p(X) :- Y > 0 | true. p(X, X). p(?0_0).": {4, api.ErrForm},
		"p(X) :- q(X). p(X) :- X + 1. p(X) :- Y > 0 | true. p(X, X).":          {3, api.ErrHead},
		"p(X) :- q(X). p(X) :- X + 1. p(X) :- Y > 0 | true.":                   {2, api.ErrGuard},
		"p(X) :- q(X). p(X) :- X + 1.":                                         {1, api.ErrBody},
		"p(X) :- p(X). p(X) :- q(X). p :- r.":                                  {1, api.ErrPred},
		"p(X, X) :- Y | Y, r, ?0_0.":                                           {0, api.ErrForm},
		"p(X, X) :- Y | Y, r.":                                                 {0, api.ErrHead},
		"p(X) :- Y | Y, r.":                                                    {0, api.ErrGuard},
		"p(X) :- Y, r.":                                                        {0, api.ErrBody},
	} {
		p := program(t, text)
		if n, e := check.Where(p); n != want.clause || e != want.e {
			t.Errorf("Where(%s): %d, %v; want %v", text, n, e, want)
		}
		if e := check.Program(p); e != want.e {
			t.Errorf("Program(%s): %v; want %v", text, e, want.e)
		}
	}
}

// TestWhereOfClauses has what no text can be: each clause stands behind right ones.
func TestWhereOfClauses(t *testing.T) {
	p, one := atom("p"), termOf(t, "1 < 2")
	rows := func(n int, x api.Term) []api.Term { return slices.Repeat([]api.Term{x}, n) }
	x := api.Term{{Kind: api.Var, Var: api.Name{Node: -1, Number: 3}}}
	for name, k := range map[string]struct {
		clause api.Clause
		want   api.Errno
	}{
		"most":                 {api.Clause{Head: p, Guards: rows(4, one), Body: rows(8, p), Locals: 16}, api.OK},
		"guards":               {api.Clause{Head: p, Guards: rows(5, one)}, api.ErrLong},
		"goals":                {api.Clause{Head: p, Body: rows(9, p)}, api.ErrLong},
		"locals":               {api.Clause{Head: p, Locals: 17}, api.ErrLong},
		"far too many locals":  {api.Clause{Head: p, Locals: math.MaxInt}, api.ErrLong},
		"wrong terms, too":     {api.Clause{Head: nil, Guards: rows(5, nil)}, api.ErrLong},
		"locals below 0":       {api.Clause{Head: p, Locals: -1}, api.ErrForm},
		"locals far below 0":   {api.Clause{Head: p, Locals: math.MinInt}, api.ErrForm},
		"number in locals":     {api.Clause{Head: slices.Concat(api.Term{{Kind: api.Struct, Text: "p", N: 1}}, x), Locals: 4}, api.OK},
		"number not in locals": {api.Clause{Head: slices.Concat(api.Term{{Kind: api.Struct, Text: "p", N: 1}}, x), Locals: 3}, api.ErrForm},
		"goal's number":        {api.Clause{Head: p, Body: []api.Term{p, x}, Locals: 3}, api.ErrForm},
		"goal that is none":    {api.Clause{Head: p, Body: []api.Term{p, x}, Locals: 4}, api.ErrBody},
		"guard's number":       {api.Clause{Head: p, Guards: []api.Term{one, x}, Locals: 3}, api.ErrForm},
		"guard that is none":   {api.Clause{Head: p, Guards: []api.Term{one, x}, Locals: 4}, api.ErrGuard},
		"head a number":        {api.Clause{Head: termOf(t, "1")}, api.ErrHead},
		"head a variable":      {api.Clause{Head: x, Locals: 4}, api.ErrHead},
		"head a sign":          {api.Clause{Head: termOf(t, "a = b")}, api.ErrHead},
		"head with @":          {api.Clause{Head: termOf(t, "p @ 1")}, api.ErrHead},
	} {
		for _, behind := range []int{0, 2} {
			l := append(slices.Repeat(api.Program{{Head: p}}, behind), k.clause)
			want := behind
			if k.want == api.OK {
				want = 0
			}
			l = append(l, api.Clause{Head: p})
			if n, e := check.Where(l); n != want || e != k.want {
				t.Errorf("%s behind %d: %d, %v; want %v", name, behind, n, e, k.want)
			}
		}
	}
	for _, x := range notRight() {
		for _, c := range []api.Clause{{Head: x}, {Head: p, Guards: []api.Term{one, x}}, {Head: p, Body: []api.Term{x, p}}} {
			if n, e := check.Where(api.Program{{Head: p}, c}); n != 1 || e != api.ErrForm {
				t.Errorf("%v: %d, %v", c, n, e)
			}
		}
	}
}

func TestWhereOfManyClauses(t *testing.T) {
	full := slices.Repeat(api.Program{{Head: atom("p")}}, api.MaxClauses)
	if n, e := check.Where(full); n != 0 || e != api.OK {
		t.Errorf("MaxClauses: %d, %v", n, e)
	}
	for _, last := range []api.Clause{{Head: atom("p")}, {}, {Locals: 17}, {Head: atom("p"), Body: []api.Term{atom("q")}}} {
		if n, e := check.Where(append(slices.Clone(full), last)); n != 0 || e != api.ErrLong {
			t.Errorf("one clause more: %d, %v", n, e)
		}
	}
	full[api.MaxClauses-1].Locals = 17
	if n, e := check.Where(full); n != api.MaxClauses-1 || e != api.ErrLong {
		t.Errorf("the last clause: %d, %v", n, e)
	}
	if e := check.Program(append(full, full...)); e != api.ErrLong {
		t.Errorf("twice as many: %v", e)
	}
}

func TestPreds(t *testing.T) {
	for _, k := range []struct{ texts, want string }{
		{"", ""},
		{"p.", "p/0"},
		{"p(X). q. p(Y, Z). p(1). q :- r.", "p/1 q/0 p/2"},
		{"p. q. ; q. r(X). ; ; p. s.", "p/0 q/0 r/1 s/0"},
		{"true. true(X). integer(X).", "true/0 true/1 integer/1"},
	} {
		var l []api.Program
		for _, s := range strings.Split(k.texts, ";") {
			l = append(l, program(t, s))
		}
		if got := check.Preds(l...); !slices.Equal(got, preds(k.want)) {
			t.Errorf("%q: %v; want %v", k.texts, got, k.want)
		}
	}
	if l := check.Preds(); len(l) != 0 {
		t.Errorf("of no programs: %v", l)
	}
	signs := api.Program{{Head: termOf(t, "a = b")}, {Head: termOf(t, "1")}, {Head: termOf(t, "X")}, {}, {Head: termOf(t, "a @ 1")}}
	if l := check.Preds(signs, nil); len(l) != 0 {
		t.Errorf("of heads that have no name: %v", l)
	}
}

func TestClauses(t *testing.T) {
	p := program(t, "p(X). q. p(Y, Z). p(1). q :- p(2). true. p.")
	p = append(p, api.Clause{Head: termOf(t, "a = b")}, api.Clause{}, api.Clause{Head: termOf(t, "q")}, api.Clause{Head: termOf(t, "7")})
	for _, k := range []struct {
		name  string
		arity int
		want  []int
	}{
		{"p", 1, []int{0, 3}}, {"p", 2, []int{2}}, {"p", 0, []int{6}}, {"q", 0, []int{1, 4, 9}}, {"true", 0, []int{5}},
		{"q", 1, nil}, {"p", 3, nil}, {"p", -1, nil}, {"p", math.MinInt, nil}, {"r", 0, nil}, {"=", 2, nil}, {"", 0, nil}, {"7", 0, nil},
	} {
		if got := check.Clauses(p, k.name, k.arity); !slices.Equal(got, k.want) {
			t.Errorf("%s/%d: %v; want %v", k.name, k.arity, got, k.want)
		}
	}
	if l := check.Clauses(nil, "p", 0); len(l) != 0 {
		t.Errorf("of no clauses: %v", l)
	}
}

func TestCalls(t *testing.T) {
	for text, want := range map[string]string{
		"p :- X = f(Y), q(Y) @ 1.": "q/1",
		"p.":                       "",
		"p :- p.":                  "p/0",
		"p :- q(1), r, q(2), q, r @ 1, s(X) @ X.": "q/1 r/0 q/0 s/1",
		"p :- q | r.": "r/0",
		"p :- true, true @ 1, true(1), X := 1, 1 = 2.":    "true/1",
		"p :- X, 1, 1 < 2, X + 1, (X = Y) @ 1, q(r).":     "q/1",
		"p :- (q = r) @ 1, (X := 1) @ 2, f(g @ 1), h(a).": "f/1 h/1",
		"p :- integer(X), div(1, 2).":                     "integer/1 div/2",
	} {
		if got := check.Calls(program(t, text), 0); !slices.Equal(got, preds(want)) {
			t.Errorf("%s: %v; want %s", text, got, want)
		}
	}
	p := program(t, "p :- q. r :- s, t(1).")
	for n, want := range map[int]string{0: "q/0", 1: "s/0 t/1", 2: "", -1: "", math.MaxInt: "", math.MinInt: ""} {
		if got := check.Calls(p, n); !slices.Equal(got, preds(want)) {
			t.Errorf("clause %d: %v; want %s", n, got, want)
		}
	}
	p[0].Body = notRight()
	if l := check.Calls(p, 0); len(l) != 0 {
		t.Errorf("of goals that are not right: %v", l)
	}
	p[0].Body = append(p[0].Body, atom("q"))
	if l := check.Calls(p, 0); !slices.Equal(l, preds("q/0")) {
		t.Errorf("behind goals that are not right: %v", l)
	}
}

func TestReached(t *testing.T) {
	for _, k := range []struct{ program, goals, want string }{
		{"p(X) :- X = f(Y), q(Y) @ 1. q(a).", "p(1)", "p/1 q/1"},
		{"p(X) :- X = f(Y), q(Y) @ 1. q(a).", "q(1)", "q/1"},
		{"p(X) :- X = f(Y), q(Y) @ 1. q(a).", "q", "q/0"},
		{"p :- q.", "", ""},
		{"", "p, q(1) @ 7, p, true, X = p, 1, X, r @ X", "p/0 q/1 r/0"},
		{"p :- p.", "p", "p/0"},
		{"p :- q, r. q :- s. r :- t. s :- p, u. t :- v.", "p", "p/0 q/0 r/0 s/0 t/0 u/0 v/0"},
		{"p :- q, r. q :- s. r :- t. s :- p, u. t :- v.", "t, s", "t/0 s/0 v/0 p/0 u/0 q/0 r/0"},
		{"p :- b. q :- d. p :- c, b. q :- a | e. b :- a.", "q, p", "q/0 p/0 d/0 e/0 b/0 c/0 a/0"},
		{"p(X) :- q. p :- r.", "p", "p/0 r/0"},
		{"p :- true, q @ 2. true :- z.", "p, true", "p/0 q/0"},
	} {
		var goals []api.Term
		for _, s := range strings.Split(k.goals, ", ") {
			if s != "" {
				goals = append(goals, termOf(t, s))
			}
		}
		if got := check.Reached(program(t, k.program), goals...); !slices.Equal(got, preds(k.want)) {
			t.Errorf("%s; %s: %v; want %s", k.program, k.goals, got, k.want)
		}
	}
	if l := check.Reached(program(t, "f(X) :- q. f :- q."), notRight()...); len(l) != 0 {
		t.Errorf("of goals that are not right: %v", l)
	}
}
