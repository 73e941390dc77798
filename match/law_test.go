package match_test

import (
	"fmt"
	"math/rand"
	"slices"
	"testing"

	"purlin/api"
	"purlin/arith"
	"purlin/heap"
	"purlin/match"
	"purlin/term"
)

// slow is what came of a head by the chapter's words: all its parts are looked at, whatever came of those ahead.
type slow struct {
	fails bool
	waits []api.Name
	took  map[int]api.Term
}

func (s *slow) hold(h *heap.Heap, room int, pattern, part api.Term) {
	if c := pattern[0]; c.Kind == api.Var {
		if _, again := s.took[c.Var.Number]; again || c.Var.Node >= 0 || c.Var.Number >= room {
			s.fails = true
		}
		s.took[c.Var.Number] = part
		return
	}
	part = h.Deref(part)
	switch {
	case part[0].Kind == api.Var:
		s.waits = append(s.waits, part[0].Var)
	case len(pattern) == 1:
		s.fails = s.fails || !term.Equal(pattern, part)
	case !term.Is(part, pattern[0].Text, pattern[0].N):
		s.fails = true
	default:
		s.all(h, room, term.Args(pattern), term.Args(part))
	}
}

func (s *slow) all(h *heap.Heap, room int, patterns, parts []api.Term) {
	for i := range patterns {
		s.hold(h, room, patterns[i], parts[i])
	}
}

func once(l []api.Name) []api.Name {
	var out []api.Name
	for _, v := range l {
		if !slices.Contains(out, v) {
			out = append(out, v)
		}
	}
	return out
}

// slowClause tries one by the chapter's words; its terms are right.
func slowClause(h *heap.Heap, c api.Clause, goal api.Term) match.Tried {
	goal = h.Deref(goal)
	switch goal[0].Kind {
	case api.Int:
		return fails()
	case api.Var:
		if goal[0].Var.Node < 0 {
			return fails()
		}
		return waits(goal[0].Var)
	}
	room := max(0, min(api.MaxLocals, c.Locals))
	s := slow{took: map[int]api.Term{}}
	if !term.Global(goal) || !term.Is(c.Head, goal[0].Text, len(term.Args(goal))) {
		return fails()
	}
	s.all(h, room, term.Args(c.Head), term.Args(goal))
	switch {
	case s.fails:
		return fails()
	case len(s.waits) > 0:
		return waits(once(s.waits)...)
	}
	locals := make([]api.Term, room)
	for i := range locals {
		locals[i] = s.took[i]
	}
	return slowGuards(h, c.Guards, locals)
}

func slowGuards(h *heap.Heap, guards, locals []api.Term) match.Tried {
	var names []api.Name
	for _, g := range guards {
		p, e := term.Put(g, locals)
		if e != api.OK {
			return fails()
		}
		o, l := arith.Guard(h, p)
		if o == api.Fails {
			return fails()
		}
		names = append(names, l...)
	}
	if len(names) > 0 {
		return waits(once(names)...)
	}
	return commits(-1, locals...)
}

func slowTry(h *heap.Heap, p api.Program, goal api.Term) match.Tried {
	if d := h.Deref(goal); d[0].Kind == api.Var && d[0].Var.Node >= 0 {
		return waits(d[0].Var)
	}
	var names []api.Name
	for i, c := range p {
		switch t := slowClause(h, c, goal); t.Outcome {
		case api.Commits:
			t.Clause = i
			return t
		case api.Suspends:
			names = append(names, t.Waits...)
		}
	}
	if len(names) > 0 {
		return waits(once(names)...)
	}
	return fails()
}

// somePattern is one of a head; next gives its variables their numbers, most often each once.
func somePattern(r *rand.Rand, deep int, next func() int) api.Term {
	switch n := r.Intn(12); {
	case n < 5:
		return variable(-1, next())
	case n < 7:
		return number(r.Intn(2))
	case n < 8:
		return atom([]string{"a", "b"}[r.Intn(2)])
	case n == 8 && r.Intn(8) == 0:
		return variable(r.Intn(2), r.Intn(3))
	case deep == 0:
		return number(1)
	}
	return structure([]string{"f", "f", "g"}[r.Intn(3)], somePatterns(r, deep-1, 1+r.Intn(2), next)...)
}

func somePatterns(r *rand.Rand, deep, n int, next func() int) []api.Term {
	var l []api.Term
	for range n {
		l = append(l, somePattern(r, deep, next))
	}
	return l
}

// somePart is a part of a goal, or of a value; the deeper, the fewer structures.
func somePart(r *rand.Rand, deep int) api.Term {
	switch n := r.Intn(12); {
	case n < 3:
		return variable(r.Intn(3), r.Intn(3))
	case n < 6:
		return number(r.Intn(2))
	case n < 7:
		return atom([]string{"a", "b"}[r.Intn(2)])
	case deep == 0:
		return number(1)
	}
	var l []api.Term
	for range 1 + r.Intn(2) {
		l = append(l, somePart(r, deep-1))
	}
	return structure([]string{"f", "f", "g"}[r.Intn(3)], l...)
}

// like is a part that a pattern may be held against: most often its form, with variables here and there.
func like(r *rand.Rand, pattern api.Term) api.Term {
	switch c := pattern[0]; {
	case c.Kind == api.Var || r.Intn(12) == 0:
		return somePart(r, 2)
	case c.Kind == api.Struct && r.Intn(5) > 0:
		var l []api.Term
		for _, x := range term.Args(pattern) {
			l = append(l, like(r, x))
		}
		return structure(c.Text, l...)
	case r.Intn(3) == 0:
		return variable(r.Intn(3), r.Intn(3))
	}
	return slices.Clone(pattern)
}

// goalFor is one for a clause's head; at times it has nothing of it, or is a variable.
func goalFor(r *rand.Rand, head api.Term) api.Term {
	switch r.Intn(20) {
	case 0:
		return somePart(r, 2)
	case 1:
		return variable(r.Intn(3), r.Intn(3))
	}
	var l []api.Term
	for _, x := range term.Args(head) {
		l = append(l, like(r, x))
	}
	goal := structure(head[0].Text, l...)
	if r.Intn(40) == 0 && len(goal) > 1 && goal[len(goal)-1].Kind != api.Struct {
		goal[len(goal)-1] = variable(-1, r.Intn(2))[0]
	}
	return goal
}

func someGuard(t testing.TB, r *rand.Rand, most int) api.Term {
	guards := []string{"X > 0", "X =< Y", "X + Y > 0", "integer(X)", "known(X)", "equal(X, Y)", "unlike(X, Y)", "true", "compound(X)", "X =:= 1"}
	g := slices.Clone(termOf(t, guards[r.Intn(len(guards))]))
	for i, c := range g {
		if c.Kind == api.Var {
			g[i].Var.Number = r.Intn(most + 1)
		}
	}
	if r.Intn(12) > 0 {
		return g
	}
	for i, c := range g {
		if c.Kind == api.Var {
			g[i] = variable(r.Intn(3), r.Intn(3))[0]
		}
	}
	return g
}

// someClause is right most often; it may have too few locals, a variable twice, or guards with none.
func someClause(t testing.TB, r *rand.Rand) api.Clause {
	count := 0
	next := func() int {
		if r.Intn(30) == 0 && count > 0 {
			return r.Intn(count)
		}
		count++
		return count - 1
	}
	c := api.Clause{Head: structure("p", somePatterns(r, 2, 1+r.Intn(3), next)...), Locals: count}
	for range r.Intn(3) {
		c.Guards = append(c.Guards, someGuard(t, r, max(0, count-1)))
	}
	if r.Intn(8) == 0 {
		c.Locals += r.Intn(4) - 1
	}
	return c
}

// more binds some variables that have no value yet.
func more(r *rand.Rand, h *heap.Heap) {
	for node := range 3 {
		for n := range 3 {
			if r.Intn(3) == 0 {
				h.Bind(name(node, n), somePart(r, 2))
			}
		}
	}
}

func hold(t *testing.T, what string, h *heap.Heap, in, goal any, got, want match.Tried) {
	t.Helper()
	if !same(got, want) {
		t.Fatalf("%s(%v, %v) by %v: %v, want %v", what, in, goal, h.Bindings(), got, want)
	}
	for _, v := range got.Waits {
		if _, bound := h.Value(v); bound {
			t.Fatalf("%s(%v, %v) waits for %v, which has a value", what, in, goal, v)
		}
	}
}

// met counts outcomes, so that a test tells when it meets too few of one.
type met map[api.Outcome]int

func (m met) enough(t *testing.T, least int) {
	t.Helper()
	for _, o := range []api.Outcome{api.Commits, api.Fails, api.Suspends} {
		if m[o] < least {
			t.Errorf("outcome %v: %d times", o, m[o])
		}
	}
}

// TestClausesByTheirWords is P7.1 of heads and clauses, and P7.3 to P7.5.
func TestClausesByTheirWords(t *testing.T) {
	heads, clauses, later := met{}, met{}, met{}
	r := rand.New(rand.NewSource(7))
	for range 30000 {
		c, h := someClause(t, r), heap.New()
		goal := goalFor(r, c.Head)
		more(r, h)
		got := match.Clause(h, c, goal)
		hold(t, "Clause", h, c, goal, got, slowClause(h, c, goal))
		bare := api.Clause{Head: c.Head}
		for _, v := range term.Vars(c.Head) {
			if v.Node < 0 {
				bare.Locals = max(bare.Locals, v.Number+1)
			}
		}
		alone := match.Head(h, c.Head, goal)
		hold(t, "Head", h, c.Head, goal, alone, slowClause(h, bare, goal))
		heads[alone.Outcome]++
		clauses[got.Outcome]++
		makesTheGoal(t, h, c.Head, goal, alone)
		k := h.Fork()
		more(r, k)
		then, thenAlone := match.Clause(k, c, goal), match.Head(k, c.Head, goal)
		if got.Outcome != api.Suspends && !same(then, got) || alone.Outcome != api.Suspends && !same(thenAlone, alone) {
			t.Fatalf("%v on %v was %v, is %v by %v", c, goal, got, then, k.Bindings())
		}
		if got.Outcome == api.Suspends {
			later[then.Outcome]++
		}
	}
	heads.enough(t, 3000)
	clauses.enough(t, 3000)
	later.enough(t, 150)
}

// makesTheGoal is P7.5.
func makesTheGoal(t *testing.T, h *heap.Heap, head, goal api.Term, got match.Tried) {
	t.Helper()
	if got.Outcome != api.Commits {
		return
	}
	p, e := term.Put(head, got.Locals)
	if e != api.OK {
		t.Fatalf("Put(%v, %v): %v", head, got.Locals, e)
	}
	a, ea := h.Resolve(p)
	b, eb := h.Resolve(goal)
	if ea != eb || !term.Equal(a, b) {
		t.Fatalf("%v with %v is %v, not %v", head, got.Locals, a, b)
	}
}

// TestProgramsByTheirWords is P7.1 of programs, and P7.3.
func TestProgramsByTheirWords(t *testing.T) {
	first, later := met{}, met{}
	behind := 0
	r := rand.New(rand.NewSource(8))
	for range 15000 {
		var p api.Program
		for range r.Intn(5) {
			p = append(p, someClause(t, r))
		}
		goal := goalFor(r, someClause(t, r).Head)
		if len(p) > 0 {
			goal = goalFor(r, p[r.Intn(len(p))].Head)
		}
		h := heap.New()
		more(r, h)
		got := match.Try(h, p, goal)
		hold(t, "Try", h, p, goal, got, slowTry(h, p, goal))
		first[got.Outcome]++
		if got.Clause > 0 {
			behind++
		}
		k := h.Fork()
		more(r, k)
		then := match.Try(k, p, goal)
		// A clause ahead of the one that commits may have waited: of a program the outcome stays, the clause need not.
		if got.Outcome != api.Suspends && then.Outcome != got.Outcome {
			t.Fatalf("%v on %v was %v, is %v by %v", p, goal, got, then, k.Bindings())
		}
		if got.Outcome == api.Suspends {
			later[then.Outcome]++
		}
	}
	first.enough(t, 2000)
	later.enough(t, 60)
	if behind < 500 {
		t.Error("clauses behind the first:", behind)
	}
}

// TestBodiesByTheirWords is P7.2.
func TestBodiesByTheirWords(t *testing.T) {
	outcomes := map[api.Errno]int{}
	r := rand.New(rand.NewSource(9))
	for range 20000 {
		c := someClause(t, r)
		room := max(0, min(api.MaxLocals, c.Locals+r.Intn(3)))
		c.Locals = room
		for range r.Intn(4) {
			c.Body = append(c.Body, somePattern(r, 3, func() int { return r.Intn(room + 1) }))
		}
		var want []int
		for n := range room {
			if !slices.Contains(term.Vars(c.Head), name(-1, n)) {
				want = append(want, n)
			}
		}
		free := match.Free(c)
		if !slices.Equal(free, want) {
			t.Fatalf("Free(%v): %v, want %v", c, free, want)
		}
		locals := make([]api.Term, r.Intn(room+3))
		for i := range locals {
			if r.Intn(8) > 0 {
				locals[i] = somePart(r, 2)
			}
		}
		fresh := make([]api.Name, max(0, len(free)+r.Intn(12)/10-r.Intn(12)/10))
		for i := range fresh {
			fresh[i] = name(r.Intn(4), r.Intn(9))
		}
		got, e := match.Body(c, locals, fresh...)
		slow, wantE := slowBody(c, free, locals, fresh)
		if e != wantE || !sameAll(got, slow) {
			t.Fatalf("Body(%v, %v, %v): %v, %v; want %v, %v", c, locals, fresh, got, e, slow, wantE)
		}
		outcomes[e]++
	}
	if outcomes[api.OK] < 2000 || outcomes[api.ErrNone] < 2000 {
		t.Error(outcomes)
	}
}

func slowBody(c api.Clause, free []int, locals []api.Term, fresh []api.Name) ([]api.Term, api.Errno) {
	if len(free) != len(fresh) {
		return nil, api.ErrNone
	}
	terms := make([]api.Term, c.Locals)
	for n := range terms {
		if i := slices.Index(free, n); i >= 0 {
			terms[n] = term.OfVar(fresh[i])
		} else if n < len(locals) {
			terms[n] = locals[n]
		}
	}
	var l []api.Term
	for _, g := range c.Body {
		p, e := term.Put(g, terms)
		if e != api.OK {
			return nil, e
		}
		l = append(l, p)
	}
	return l, api.OK
}

// roomy is a term with room behind its end that is marked.
func roomy(t api.Term) api.Term {
	r := append(make(api.Term, 0, len(t)+4), t...)
	for i := range r[len(t):cap(r)] {
		r[len(t):cap(r)][i] = api.Cell{Kind: 77, Text: "mark", N: i}
	}
	return r
}

func roomyList(l ...api.Term) []api.Term {
	r := make([]api.Term, 0, len(l)+3)
	for _, t := range l {
		r = append(r, roomy(t))
	}
	for i := range r[len(l):cap(r)] {
		r[len(l):cap(r)][i] = api.Term{{Kind: 78}}
	}
	return r
}

func whole(l ...api.Term) string {
	s := ""
	for _, t := range l {
		s += fmt.Sprintln(len(t), t[:cap(t)])
	}
	return s
}

func wipe(l ...api.Term) {
	for _, t := range l {
		for i := range t[:cap(t)] {
			t[:cap(t)][i] = api.Cell{Kind: 99}
		}
	}
}

// apart wipes answers one by one: none lies in another one.
func apart(t *testing.T, answers []api.Term) {
	t.Helper()
	for i, a := range answers {
		others := fmt.Sprint(answers[:i], answers[i+1:])
		wipe(a)
		if fmt.Sprint(answers[:i], answers[i+1:]) != others {
			t.Error("an answer lies in another one")
		}
	}
}

// TestNothingIsShared is P3: what is handed in stays, spare room too; what is answered is the caller's.
func TestNothingIsShared(t *testing.T) {
	h := values(t)
	bindings := fmt.Sprint(h.Bindings())
	head := roomy(termOf(t, "p(X, f(Y), Z, g(a, U))"))
	guards := roomyList(termOf(t, "known(X)"), termOf(t, "X > 0"))
	body := roomyList(termOf(t, "q(X, Y, V)"), termOf(t, "true"), termOf(t, "r(Z, f(U))"))
	p := append(make(api.Program, 0, 3), api.Clause{Head: roomy(atom("p"))}, api.Clause{Head: head, Guards: guards, Body: body, Locals: 5})
	p[:3][2] = api.Clause{Locals: 77}
	texts := func() string {
		return whole(head) + whole(guards[:cap(guards)]...) + whole(body[:cap(body)]...) + fmt.Sprint(p[:3])
	}
	for _, text := range []string{"p(7, ?1_0, f(a, ?1_0), g(?1_3, f(1, 2)))", "p(?1_2, f(f(f(1))), ?1_1, g(a, ?0_1))", "p(?0_1, ?0_2, 1, ?0_1)", "p(?0_1, f(1), 1, g(a, 1))", "p(1, 2, 3, 4)"} {
		goal := roomy(termOf(t, text))
		before := texts() + whole(goal)
		var first []match.Tried
		for range 2 {
			all := []match.Tried{match.Head(h, head, goal), match.Clause(h, p[1], goal), match.Try(h, p, goal)}
			if first == nil {
				first = []match.Tried{match.Head(h, head, goal), match.Clause(h, p[1], goal), match.Try(h, p, goal)}
			}
			for i, a := range all {
				if !same(a, first[i]) {
					t.Errorf("%s: %v, was %v", text, a, first[i])
				}
				apart(t, a.Locals)
				for j := range a.Waits[:cap(a.Waits)] {
					a.Waits[:cap(a.Waits)][j] = name(99, 99)
				}
				for j := range a.Locals[:cap(a.Locals)] {
					a.Locals[:cap(a.Locals)][j] = nil
				}
			}
		}
		if texts()+whole(goal) != before {
			t.Error("what was handed in is changed:", texts(), goal)
		}
	}
	if fmt.Sprint(h.Bindings()) != bindings {
		t.Error("the map is changed:", h.Bindings())
	}
}

// TestBodiesAreNew is P3 of Body and Free.
func TestBodiesAreNew(t *testing.T) {
	c := programOf(t, "p(X, Y) :- q(X), true, r(Z), X = Y, s(X, U).")[0]
	c.Head, c.Body = roomy(c.Head), roomyList(c.Body...)
	locals := roomyList(termOf(t, "f(1, ?0_1)"), variable(0, 2), nil, number(1), number(2))
	fresh := append(make([]api.Name, 0, 4), name(1, 1), name(1, 2))
	fresh[:3][2] = name(77, 77)
	before := whole(c.Head) + whole(c.Body[:cap(c.Body)]...) + whole(locals[:cap(locals)]...) + fmt.Sprint(fresh[:3])
	first := ""
	for range 3 {
		l, e := match.Body(c, locals, fresh...)
		free := match.Free(c)
		got := fmt.Sprint(l, e, free)
		if first == "" {
			first = got
		}
		if got != first || e != api.OK {
			t.Errorf("%s, was %s", got, first)
		}
		apart(t, l)
		for i := range l[:cap(l)] {
			l[:cap(l)][i] = nil
		}
		for i := range free[:cap(free)] {
			free[:cap(free)][i] = 99
		}
	}
	if whole(c.Head)+whole(c.Body[:cap(c.Body)]...)+whole(locals[:cap(locals)]...)+fmt.Sprint(fresh[:3]) != before {
		t.Error("what was handed in is changed")
	}
}

// FuzzRows gives rows of cells, right ones and others, as heads, goals and guards: each call ends, and tells what it may.
func FuzzRows(f *testing.F) {
	palette := []api.Cell{
		number(1)[0], atom("a")[0], variable(-1, 0)[0], variable(-1, 1)[0], variable(0, 0)[0], variable(1, 1)[0],
		{Kind: api.Struct, Text: "f", N: 1}, {Kind: api.Struct, Text: "f", N: 2}, {Kind: api.Struct, Text: "<", N: 2}, {Kind: 9},
		{Kind: api.Struct, Text: "f"}, {Kind: api.Struct, Text: "f", N: 1 << 62}, {Kind: api.Atom, Text: "true"},
	}
	row := func(l []byte) (x api.Term) {
		for _, b := range l {
			x = append(x, palette[int(b)%len(palette)])
		}
		return x
	}
	for a := range byte(len(palette)) {
		for b := range byte(len(palette)) {
			f.Add([]byte{6, a}, []byte{6, b}, []byte{8, a, b}, 2)
			f.Add([]byte{7, a, b}, []byte{7, b, a}, []byte{12}, 1)
			f.Add([]byte{a}, []byte{b}, []byte{a, b}, -1)
		}
	}
	f.Fuzz(func(t *testing.T, a, b, g []byte, locals int) {
		h := heap.New()
		h.Bind(name(1, 1), structure("f", number(1)))
		c := api.Clause{Head: row(a), Guards: []api.Term{row(g)}, Body: []api.Term{row(b)}, Locals: locals}
		goal := row(b)
		got := match.Clause(h, c, goal)
		want := fails()
		if term.Right(c.Head) && term.Right(c.Guards[0]) && term.Right(goal) {
			want = slowClause(h, c, goal)
		}
		hold(t, "Clause", h, c, goal, got, want)
		if tried := match.Try(h, api.Program{c}, goal); tried.Outcome != got.Outcome && h.Deref(goal)[0].Kind != api.Var {
			t.Fatal(tried, got)
		}
		if l, e := match.Body(c, got.Locals, make([]api.Name, len(match.Free(c)))...); e != api.OK && len(l) != 0 {
			t.Fatal(l, e)
		}
	})
}
