package check_test

import (
	"math/rand"
	"reflect"
	"slices"
	"strconv"
	"strings"
	"testing"

	"purlin/api"
	"purlin/check"
	"purlin/syntax"
	"purlin/term"
)

// is tells whether a term has one of these names, or signs, with as many arguments as there are kinds, and each argument is of its kind.
func is(x api.Term, names string, kinds ...func(api.Term) bool) bool {
	args := term.Args(x)
	if !slices.Contains(strings.Fields(names), x[0].Text) || len(args) != len(kinds) || x[0].Kind == api.Atom && len(kinds) > 0 {
		return false
	}
	for i, kind := range kinds {
		if !kind(args[i]) {
			return false
		}
	}
	return true
}

func whatever(api.Term) bool { return true }

func small(x api.Term) bool { return len(x) == 1 }

func slowSum(x api.Term) bool {
	return x[0].Kind == api.Int || x[0].Kind == api.Var || is(x, "+ - * div mod min max", slowSum, slowSum) || is(x, "abs", slowSum)
}

func slowGuard(x api.Term) bool {
	return is(x, "true") || is(x, "< =< > >= =:= =\\=", slowSum, slowSum) ||
		is(x, "integer atom compound known", small) || is(x, "equal unlike", small, small)
}

func slowCall(x api.Term) bool {
	return (x[0].Kind == api.Atom || x[0].Kind == api.Struct) && term.IsName(x[0].Text) && !is(x, "true")
}

func slowPlain(x api.Term) bool {
	return is(x, "true") || is(x, "=", whatever, whatever) || is(x, ":=", whatever, slowSum) || slowCall(x)
}

func slowPlace(x api.Term) bool {
	return x[0].Kind == api.Var || x[0].Kind == api.Int && slices.Contains([]int{0, 1, 2, 3}, x[0].N)
}

func slowGoal(x api.Term) bool { return slowPlain(x) || is(x, "@", slowPlain, slowPlace) }

// pool are right terms of all names that mean something, and some that mean nothing.
func pool() []api.Term {
	var leaves, flat []api.Term
	for _, s := range []string{"1", "-1", "4", "a", "true", "abs", "equal", "X", "?1_0"} {
		x, _, _, _ := syntax.Term(s)
		leaves = append(leaves, x)
	}
	names := strings.Fields("f true abs div mod min max integer atom compound known equal unlike = := @ + - * < =< > >= =:= =\\=")
	with := func(args ...api.Term) {
		for _, s := range names {
			if x, e := term.Make(s, args...); e == api.OK {
				flat = append(flat, x)
			}
		}
	}
	for _, x := range leaves {
		with(x)
		with(leaves[0], x)
		with(x, leaves[7])
		with(x, leaves[0], leaves[7])
	}
	l := slices.Concat(leaves, flat)
	for _, x := range slices.Clone(flat) {
		with(x)
		with(x, leaves[0])
		with(x, leaves[2])
		with(leaves[7], x)
		with(leaves[3], x)
	}
	return append(l, flat...)
}

func TestKindsByTheirWords(t *testing.T) {
	l := pool()
	met := map[string]int{}
	for _, x := range l {
		for kind, k := range map[string]struct{ got, want bool }{
			"sum":   {check.IsSum(x), slowSum(x)},
			"guard": {check.IsGuard(x), slowGuard(x)},
			"goal":  {check.IsGoal(x), slowGoal(x)},
		} {
			if k.got != k.want {
				t.Errorf("%v is a %s: %v", x, kind, k.got)
			}
			if k.want {
				met[kind]++
			}
		}
	}
	if len(l) < 10000 || met["sum"] < 100 || met["guard"] < 100 || met["goal"] < 100 {
		t.Errorf("%d terms: %v", len(l), met)
	}
}

// clausePools are heads, guards and goals, most of them right, some of each fault.
func clausePools() (heads, guards, goals []string) {
	heads = strings.Split("p;p(X);p(X, Y);q(X);q;r(f(X), Y);p(Y, X);p(X, X);true;p(?0_0);r(Z, f(Z));a = b;X;1", ";")
	guards = strings.Split("true;1 < 2;X > 0;X =< Y + 1;known(X);equal(X, Y);unlike(a, 1);Z > 0;X = 1;q;known(?0_0);atom(f(X))", ";")
	goals = strings.Split("true;p;p(X) @ 1;q(Y);X = f(Y);Y := X + 1;p(X, Y) @ X;q @ 0;r(X, 1);s;q @ 4;X + 1;p(?1_0);Y := a;s(X) @ 3;X", ";")
	return heads, guards, goals
}

// someClause is one whose variables X, Y and Z are those of the numbers 0, 1, 2; it is wrong now and then.
func someClause(r *rand.Rand, parse func(string) api.Term) api.Clause {
	heads, guards, goals := clausePools()
	pick := func(l []string) api.Term {
		n := len(l) * 3 / 5
		if r.Intn(12) == 0 {
			n = len(l)
		}
		return parse(l[r.Intn(n)])
	}
	c := api.Clause{Head: pick(heads), Locals: 3}
	for range r.Intn(3) {
		c.Guards = append(c.Guards, pick(guards))
	}
	for range r.Intn(4) {
		c.Body = append(c.Body, pick(goals))
	}
	switch r.Intn(60) {
	case 0:
		c.Locals = []int{-1, 1, 2, 16, 17}[r.Intn(5)]
	case 1:
		c.Body = append(c.Body, notRight()[r.Intn(len(notRight()))])
	case 2:
		c.Body = append(c.Body, slices.Repeat([]api.Term{parse("p")}, 7)...)
	case 3:
		c.Guards = append(c.Guards, slices.Repeat([]api.Term{parse("true")}, 4)...)
	}
	return c
}

// numbered reads a term in which X, Y, Z are the variables 0, 1, 2.
func numbered(text string) api.Term {
	x, _, _, _ := syntax.Term("f(X, Y, Z, " + text + ")")
	return term.Args(x)[3]
}

func slowPreds(goals []api.Term) []check.Pred {
	var l []check.Pred
	for _, x := range goals {
		if !term.Right(x) {
			continue
		}
		if is(x, "@", whatever, whatever) {
			x = term.Args(x)[0]
		}
		if d := (check.Pred{Name: x[0].Text, Arity: len(term.Args(x))}); slowCall(x) && !slices.Contains(l, d) {
			l = append(l, d)
		}
	}
	return l
}

// slowWhere looks for the six errors in their order, as chapter 4 words them.
func slowWhere(p api.Program) (int, api.Errno) {
	parts := func(c api.Clause) []api.Term { return slices.Concat([]api.Term{c.Head}, c.Guards, c.Body) }
	for _, k := range []struct {
		e   api.Errno
		has func(c api.Clause) bool
	}{
		{api.ErrLong, func(c api.Clause) bool { return len(c.Guards) > 4 || len(c.Body) > 8 || c.Locals > 16 }},
		{api.ErrForm, func(c api.Clause) bool {
			for _, x := range parts(c) {
				if !term.Right(x) {
					return true
				}
				for _, v := range term.Vars(x) {
					if v.Node != -1 || v.Number >= c.Locals {
						return true
					}
				}
			}
			return c.Locals < 0
		}},
		{api.ErrHead, func(c api.Clause) bool {
			met := map[api.Name]int{}
			for _, x := range c.Head {
				if x.Kind == api.Var {
					met[x.Var]++
				}
			}
			for _, n := range met {
				if n > 1 {
					return true
				}
			}
			return !slowCall(c.Head)
		}},
		{api.ErrGuard, func(c api.Clause) bool {
			for _, g := range c.Guards {
				if !slowGuard(g) || len(term.Vars(c.Head, g)) > len(term.Vars(c.Head)) {
					return true
				}
			}
			return false
		}},
		{api.ErrBody, func(c api.Clause) bool {
			for _, g := range c.Body {
				if !slowGoal(g) {
					return true
				}
			}
			return false
		}},
		{api.ErrPred, func(c api.Clause) bool {
			for _, d := range slowPreds(c.Body) {
				if !slices.ContainsFunc(p, func(c api.Clause) bool { return term.Is(c.Head, d.Name, d.Arity) }) {
					return true
				}
			}
			return false
		}},
	} {
		for n, c := range p {
			if k.has(c) {
				return n, k.e
			}
		}
	}
	return 0, api.OK
}

// eachProgram calls look with many programs, right and wrong ones.
func eachProgram(look func(r *rand.Rand, p api.Program)) {
	r := rand.New(rand.NewSource(4))
	known := map[string]api.Term{}
	parse := func(s string) api.Term {
		if _, ok := known[s]; !ok {
			known[s] = numbered(s)
		}
		return known[s]
	}
	for range 20000 {
		var p api.Program
		for range r.Intn(7) {
			p = append(p, someClause(r, parse))
		}
		look(r, p)
	}
}

func TestWhereByItsWords(t *testing.T) {
	met := map[api.Errno]int{}
	eachProgram(func(r *rand.Rand, p api.Program) {
		n, e := check.Where(p)
		want, wantE := slowWhere(p)
		if n != want || e != wantE || check.Program(p) != wantE {
			t.Fatalf("%v: %d, %v; want %d, %v", p, n, e, want, wantE)
		}
		met[e]++
	})
	for _, e := range []api.Errno{api.OK, api.ErrLong, api.ErrForm, api.ErrHead, api.ErrGuard, api.ErrBody, api.ErrPred} {
		if met[e] < 50 {
			t.Errorf("%v came %d times alone", e, met[e])
		}
	}
}

// TestWhatFollows holds P4.4, P4.5 and P4.6.
func TestWhatFollows(t *testing.T) {
	lonely := 0
	eachProgram(func(r *rand.Rand, p api.Program) {
		e := check.Program(p)
		moved := slices.Clone(p)
		r.Shuffle(len(moved), func(i, j int) { moved[i], moved[j] = moved[j], moved[i] })
		if f := check.Program(moved); f != e {
			t.Fatalf("%v: %v; in another order %v", p, e, f)
		}
		stands := map[int]int{}
		for _, d := range check.Preds(p) {
			for _, n := range check.Clauses(p, d.Name, d.Arity) {
				stands[n]++
				if !term.Is(p[n].Head, d.Name, d.Arity) {
					t.Fatalf("%v: clause %d is one of %v", p, n, d)
				}
			}
		}
		if e != api.OK {
			return
		}
		for n := range p {
			if stands[n] != 1 {
				t.Fatalf("%v: clause %d stands in the clauses of %d predicates", p, n, stands[n])
			}
			for _, d := range check.Calls(p, n) {
				l := check.Clauses(p, d.Name, d.Arity)
				if len(l) == 0 {
					t.Fatalf("%v: %v has no clause", p, d)
				}
				if len(l) == 1 && l[0] != n {
					lonely++
					if e := check.Program(slices.Delete(slices.Clone(p), l[0], l[0]+1)); e != api.ErrPred {
						t.Fatalf("%v without clause %d: %v", p, l[0], e)
					}
				}
			}
		}
	})
	if lonely < 50 {
		t.Errorf("%d clauses alone were left out", lonely)
	}
}

// TestReachedByItsWords holds Calls and Reached against lists that are gone through again and again.
func TestReachedByItsWords(t *testing.T) {
	eachProgram(func(r *rand.Rand, p api.Program) {
		goals := []api.Term{numbered("p(X) @ 1"), nil, numbered("X = p"), numbered("q")}[r.Intn(3):]
		want := slowPreds(goals)
		for i := 0; i < len(want); i++ {
			for n, c := range p {
				if !slices.Equal(check.Calls(p, n), slowPreds(c.Body)) {
					t.Fatalf("%v: clause %d calls %v", p, n, check.Calls(p, n))
				}
				if !term.Is(c.Head, want[i].Name, want[i].Arity) {
					continue
				}
				for _, d := range slowPreds(c.Body) {
					if !slices.Contains(want, d) {
						want = append(want, d)
					}
				}
			}
		}
		if got := check.Reached(p, goals...); !slices.Equal(got, want) {
			t.Fatalf("%v: %v; want %v", p, got, want)
		}
	})
}

// TestHeadsThatAreNotRight: Preds and Clauses go by a head's first cell, as term.Is does.
func TestHeadsThatAreNotRight(t *testing.T) {
	short := api.Term{{Kind: api.Struct, Text: "f", N: 2}}
	p := api.Program{{Head: short}, {Head: slices.Concat(atom("a"), atom("b"))}, {Head: api.Term{{Kind: api.Int, Text: "a"}}}, {Head: api.Term{{Kind: 7, Text: "f", N: 2}}}}
	if l := check.Preds(p); !slices.Equal(l, preds("f/2 a/0")) {
		t.Errorf("Preds: %v", l)
	}
	if l := check.Clauses(p, "f", 2); !slices.Equal(l, []int{0}) {
		t.Errorf("Clauses of f/2: %v", l)
	}
	if l := check.Clauses(p, "a", 0); !slices.Equal(l, []int{1}) {
		t.Errorf("Clauses of a/0: %v", l)
	}
}

// TestHeadsOfNoName: an atom or a structure whose text is no name has no predicate, wherever it stands; those beside it have theirs.
func TestHeadsOfNoName(t *testing.T) {
	longest := strings.Repeat("a", api.MaxName)
	named := program(t, "p. "+longest+"(X). p(X) :- p.")
	texts := []string{"", "F", "_", "_a", "1", "7a", "p q", "p ", " p", "p-q", "p\n", "p\x00", "\u00e9", "p\u00e9", longest + "a", strings.Repeat("a", 1<<16)}
	for _, s := range append(texts, strings.Fields("= := @ + - * < =< > >= =:= =\\= ( ) , . | :-")...) {
		for arity := range 3 {
			c := api.Cell{Kind: api.Struct, Text: s, N: arity}
			if arity == 0 {
				c = api.Cell{Kind: api.Atom, Text: s}
			}
			none := api.Clause{Head: append(api.Term{c}, slices.Concat(slices.Repeat([]api.Term{atom("a")}, arity)...)...), Body: []api.Term{atom("q")}}
			if l := check.Preds(api.Program{none}, api.Program{none, none}); len(l) != 0 {
				t.Errorf("Preds of %.20q with %d: %v", s, arity, l)
			}
			mixed := api.Program{none, named[0], none, named[1], named[2], none}
			if l := check.Preds(api.Program{none}, mixed, named); !slices.Equal(l, preds("p/0 "+longest+"/1 p/1")) {
				t.Errorf("Preds among %.20q with %d: %v", s, arity, l)
			}
			if l := check.Clauses(mixed, s, arity); len(l) != 0 {
				t.Errorf("Clauses of %.20q with %d: %v", s, arity, l)
			}
			for d, want := range map[check.Pred]int{{Name: "p"}: 1, {Name: longest, Arity: 1}: 3, {Name: "p", Arity: 1}: 4} {
				if l := check.Clauses(mixed, d.Name, d.Arity); !slices.Equal(l, []int{want}) {
					t.Errorf("Clauses of %v among %.20q with %d: %v", d, s, arity, l)
				}
			}
			if l := check.Reached(mixed, none.Head, atom("p")); slices.Contains(l, check.Pred{Name: "q"}) {
				t.Errorf("Reached among %.20q with %d: %v", s, arity, l)
			}
		}
	}
}

// TestLongPrograms: what no limit holds ends soon, too.
func TestLongPrograms(t *testing.T) {
	const n = 20000
	var p api.Program
	for i := range n {
		p = append(p, api.Clause{Head: atom("p" + strconv.Itoa(i)), Body: []api.Term{atom("p" + strconv.Itoa(i+1))}})
	}
	if l := check.Preds(p, p); len(l) != n {
		t.Errorf("Preds: %d", len(l))
	}
	if l := check.Reached(p, atom("p0"), atom("p0")); len(l) != n+1 || l[n].Name != "p"+strconv.Itoa(n) {
		t.Errorf("Reached: %d", len(l))
	}
	if e := check.Program(p); e != api.ErrLong {
		t.Errorf("Program: %v", e)
	}
}

// TestNothingIsShared: what is handed in stays, behind ends too; what is told is the caller's.
func TestNothingIsShared(t *testing.T) {
	sample := func() api.Program {
		var p api.Program
		for _, c := range program(t, "p(X) :- X > 0, known(X) | q(X) @ 1, r, X = 1. q(X) :- r. r.") {
			c.Head = append(c.Head, api.Cell{Text: "spare"})[:len(c.Head)]
			c.Guards = append(slices.Clone(c.Guards), atom("spare"))[:len(c.Guards)]
			c.Body = append(slices.Clone(c.Body), atom("spare"))[:len(c.Body)]
			p = append(p, c)
		}
		return append(p, api.Clause{Locals: 5})[:len(p)]
	}
	whole := func(p api.Program) (l []any) {
		for _, c := range p[:len(p)+1] {
			l = append(l, c.Head[:cap(c.Head)], c.Guards[:cap(c.Guards)], c.Body[:cap(c.Body)], c.Locals)
		}
		return l
	}
	p, goals := sample(), []api.Term{atom("r"), numbered("p(X) @ 1"), atom("spare")}
	for range 2 {
		tell := func() [][]check.Pred {
			return [][]check.Pred{check.Preds(p, p), check.Calls(p, 0), check.Reached(p, goals[:2]...)}
		}
		numbers := check.Clauses(p, "p", 1)
		first, second := tell(), tell()
		for _, l := range first {
			for i := range l[:cap(l)] {
				l[:cap(l)][i] = check.Pred{}
			}
		}
		if !reflect.DeepEqual(second, tell()) {
			t.Errorf("a write into what was told: %v, then %v", second, tell())
		}
		numbers[0] = 9
		if l := check.Clauses(p, "p", 1); !slices.Equal(l, []int{0}) {
			t.Errorf("a write into what was told: %v", l)
		}
	}
	if n, e := check.Where(p); n != 0 || e != api.OK {
		t.Errorf("Where: %d, %v", n, e)
	}
	for _, x := range append(goals, p[0].Guards...) {
		check.IsSum(x)
		check.IsGuard(x)
		check.IsGoal(x)
	}
	if !reflect.DeepEqual(whole(p), whole(sample())) || !term.Equal(goals[2], atom("spare")) {
		t.Errorf("%v; want %v", whole(p), whole(sample()))
	}
}
