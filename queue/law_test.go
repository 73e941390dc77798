package queue_test

import (
	"fmt"
	"math/rand"
	"slices"
	"testing"

	"purlin/api"
	"purlin/arith"
	"purlin/heap"
	"purlin/match"
	"purlin/model"
	"purlin/queue"
	"purlin/syntax"
	"purlin/term"
	"purlin/unify"
)

// slow is a queue by the chapter's words: two lists, gone through from the front.
type slow struct {
	ready   []api.Goal
	waiting []sleeper
}

type sleeper struct {
	goal api.Goal
	vars []api.Name
}

func once(l []api.Name) []api.Name {
	var r []api.Name
	for _, v := range l {
		if !slices.Contains(r, v) {
			r = append(r, v)
		}
	}
	return r
}

func (s *slow) next() (api.Goal, bool) {
	if len(s.ready) == 0 {
		return api.Goal{}, false
	}
	g := s.ready[0]
	s.ready = slices.Clone(s.ready[1:])
	return g, true
}

func (s *slow) wake(vars []api.Name) []api.Goal {
	var woken []api.Goal
	var left []sleeper
	for _, w := range s.waiting {
		if slices.ContainsFunc(w.vars, func(v api.Name) bool { return slices.Contains(vars, v) }) {
			woken = append(woken, w.goal)
		} else {
			left = append(left, w)
		}
	}
	s.waiting, s.ready = left, append(s.ready, woken...)
	return woken
}

func (s *slow) fork() *slow {
	return &slow{ready: slices.Clone(s.ready), waiting: slices.Clone(s.waiting)}
}

// names are those that goals of the runs have, and some more.
func names() (l []api.Name) {
	for i := range 6 {
		l = append(l, name(i%2, i))
	}
	return l
}

// text is all that it must tell.
func (s *slow) text() string {
	var waiting []api.Goal
	var vars []api.Name
	for _, w := range s.waiting {
		waiting, vars = append(waiting, w.goal), append(vars, w.vars...)
	}
	vars = once(vars)
	slices.SortFunc(vars, func(a, b api.Name) int {
		if term.Less(a, b) {
			return -1
		}
		return 1
	})
	first := api.Goal{}
	if len(s.ready) > 0 {
		first = s.ready[0]
	}
	text := fmt.Sprint(s.ready, waiting, vars, len(s.ready), len(waiting), first, len(s.ready) > 0)
	for _, n := range names() {
		of := func(g api.Goal) bool { return g.Name == n }
		var on []api.Name
		if i := slices.IndexFunc(waiting, of); i >= 0 {
			on = s.waiting[i].vars
		}
		text += fmt.Sprint(on, slices.ContainsFunc(slices.Concat(s.ready, waiting), of))
	}
	return text
}

// text is all that a queue tells.
func text(q *queue.Queue) string {
	n, m := q.Len()
	g, ok := q.Peek()
	s := fmt.Sprint(q.Ready(), q.Waiting(), q.Vars(), n, m, g, ok)
	for _, n := range names() {
		s += fmt.Sprint(q.On(n), q.Has(n))
	}
	return s
}

func someGoal(r *rand.Rand) api.Goal {
	l := names()
	x := slices.Repeat(api.Term{{Kind: api.Int, N: r.Intn(9)}}, r.Intn(3))
	return api.Goal{Name: l[r.Intn(len(l)-1)], Term: x}
}

func someVars(r *rand.Rand, many int) (l []api.Name) {
	for range r.Intn(5) {
		l = append(l, name(r.Intn(3), r.Intn(many)))
	}
	return l
}

// do does one call, by chance, on both; it tells which.
func do(t *testing.T, r *rand.Rand, q *queue.Queue, s *slow, many int) string {
	t.Helper()
	switch n := r.Intn(20); {
	case n < 4:
		var l []api.Goal
		for range r.Intn(4) {
			l = append(l, someGoal(r))
		}
		if e := q.Put(l...); e != api.OK {
			t.Fatal(e)
		}
		s.ready = append(s.ready, l...)
		return "put"
	case n < 10:
		g, ok := q.Next()
		want, there := s.next()
		if ok != there || g.Name != want.Name || !term.Equal(g.Term, want.Term) {
			t.Fatalf("Next: %v, %v; want %v, %v", g, ok, want, there)
		}
		return fmt.Sprint("next ", ok)
	case n < 18:
		g, vars := someGoal(r), someVars(r, many)
		e := q.Wait(g, vars...)
		if (e == api.OK) != (len(vars) > 0) || e != api.OK && e != api.ErrNone {
			t.Fatal(vars, e)
		}
		if e == api.OK {
			s.waiting = append(s.waiting, sleeper{g, once(vars)})
		}
		return fmt.Sprint("wait ", e)
	}
	vars := someVars(r, many)
	got, want := q.Wake(vars...), s.wake(vars)
	if fmt.Sprint(got) != fmt.Sprint(want) {
		t.Fatalf("Wake %v: %v, want %v", vars, got, want)
	}
	return fmt.Sprint("wake ", min(len(want), 2))
}

// TestRunsByTheirWords is P10.1 to P10.6 over runs of calls, with few variables and with many.
func TestRunsByTheirWords(t *testing.T) {
	count := map[string]int{}
	for seed := range 120 {
		r := rand.New(rand.NewSource(int64(seed)))
		q, s := queue.New(), &slow{}
		for range 100 {
			before := s.text()
			what := do(t, r, q, s, []int{1, 3, 9, 60}[seed%4])
			count[what]++
			if got, want := text(q), s.text(); got != want {
				t.Fatalf("behind %s of %s: %s, want %s", what, before, got, want)
			}
		}
	}
	for _, what := range []string{"put", "next true", "next false", "wait 0", "wait 4", "wake 0", "wake 1", "wake 2"} {
		if count[what] < 200 {
			t.Errorf("%s came up %d times alone", what, count[what])
		}
	}
}

// TestForksGoTheirOwnWay is P4: many queues, each forked from another one, hold what they must.
func TestForksGoTheirOwnWay(t *testing.T) {
	for seed := range 60 {
		r := rand.New(rand.NewSource(int64(1000 + seed)))
		queues, all := []*queue.Queue{queue.New()}, []*slow{{}}
		for range 400 {
			i := r.Intn(len(queues))
			if r.Intn(20) == 0 && len(queues) < 12 {
				queues, all = append(queues, queues[i].Fork()), append(all, all[i].fork())
				continue
			}
			do(t, r, queues[i], all[i], []int{1, 3, 9}[seed%3])
		}
		for i, q := range queues {
			if got, want := text(q), all[i].text(); got != want {
				t.Fatalf("queue %d of %d: %s, want %s", i, len(queues), got, want)
			}
		}
	}
}

// TestNoGoalIsLost is P10.4: each goal that was put, or waited, comes by Next once, or is there.
func TestNoGoalIsLost(t *testing.T) {
	for seed := range 40 {
		r := rand.New(rand.NewSource(int64(2000 + seed)))
		q := queue.New()
		times := map[api.Name]int{}
		begun := 0
		for range 300 {
			g := api.Goal{Name: name(0, begun)}
			switch r.Intn(5) {
			case 0, 1:
				q.Put(g)
				begun++
			case 2:
				if q.Wait(g, someVars(r, 4)...) == api.OK {
					begun++
				}
			case 3:
				q.Wake(someVars(r, 4)...)
			case 4:
				if g, ok := q.Next(); ok {
					times[g.Name]++
				}
			}
		}
		for _, g := range slices.Concat(q.Ready(), q.Waiting()) {
			times[g.Name]++
		}
		for i := range begun {
			if times[name(0, i)] != 1 {
				t.Fatalf("goal %d of %d is there %d times", i, begun, times[name(0, i)])
			}
		}
		if len(times) != begun {
			t.Fatal(len(times), begun)
		}
	}
}

// roomy are goals with marked room behind the end of their list, and of their terms.
func roomy(l ...api.Goal) []api.Goal {
	r := make([]api.Goal, 0, len(l)+2)
	for _, g := range l {
		x := append(make(api.Term, 0, len(g.Term)+3), g.Term...)
		for i := range x[len(x):cap(x)] {
			x[len(x):cap(x)][i] = api.Cell{Kind: 77, N: i}
		}
		r = append(r, api.Goal{Name: g.Name, Term: x})
	}
	for i := range r[len(r):cap(r)] {
		r[len(r):cap(r)][i] = api.Goal{Name: name(77, i)}
	}
	return r
}

func whole(l []api.Goal) string {
	s := ""
	for _, g := range l[:cap(l)] {
		s += fmt.Sprintln(g.Name, len(g.Term), g.Term[:cap(g.Term)])
	}
	return s
}

// wipe wipes goals one by one: none lies in another one.
func wipe(t *testing.T, l ...api.Goal) {
	t.Helper()
	for i, g := range l {
		others := fmt.Sprint(l[:i], l[i+1:])
		for j := range g.Term[:cap(g.Term)] {
			g.Term[:cap(g.Term)][j] = api.Cell{Kind: 99}
		}
		if fmt.Sprint(l[:i], l[i+1:]) != others {
			t.Error("an answer lies in another one")
		}
	}
	clear(l[:cap(l)])
}

// TestNothingIsShared is P3: what is handed in stays, spare room too, and is not kept; what is answered is the caller's.
func TestNothingIsShared(t *testing.T) {
	for seed := range 30 {
		r := rand.New(rand.NewSource(int64(3000 + seed)))
		q, s := queue.New(), &slow{}
		for range 16 {
			l := roomy(someGoal(r), someGoal(r), someGoal(r))
			vars := append(make([]api.Name, 0, 9), someVars(r, 3)...)
			for i := range vars[len(vars):9] {
				vars[len(vars):9][i] = name(77, i)
			}
			before := whole(l) + fmt.Sprint(vars[:9])
			own := slices.Clone(l)
			for i, g := range own {
				own[i].Term = slices.Clone(g.Term)
			}
			q.Put(l[:2:cap(l)]...)
			s.ready = append(s.ready, own[:2]...)
			if len(vars) > 0 {
				q.Wait(l[2], vars...)
				s.waiting = append(s.waiting, sleeper{own[2], once(vars)})
			}
			var woken []api.Goal
			if r.Intn(3) == 0 {
				woken = q.Wake(vars...)
				s.wake(vars)
			}
			if whole(l)+fmt.Sprint(vars[:9]) != before {
				t.Fatal("what was handed in is changed:", l, vars[:9])
			}
			wipe(t, l...)
			clear(vars[:9])
			wipe(t, woken...)
			k := q.Fork()
			wipe(t, q.Ready()...)
			wipe(t, q.Waiting()...)
			for _, l := range [][]api.Name{q.Vars(), q.On(name(0, 0)), q.On(name(1, 1)), k.On(name(0, 2)), k.On(name(1, 3))} {
				for i := range l[:cap(l)] {
					l[:cap(l)][i] = name(99, 99)
				}
			}
			first, _ := q.Peek()
			wipe(t, first)
			if r.Intn(2) == 0 {
				s.next()
				first, _ = q.Next()
				wipe(t, first)
				first, _ = k.Next()
				wipe(t, first)
			}
			if got, want := text(q), s.text(); got != want || text(k) != want {
				t.Fatalf("%s, want %s", got, want)
			}
		}
	}
}

// runner is one node that has all goals in one queue, and tells each of its reductions to the machine.
type runner struct {
	q           *queue.Queue
	h           *heap.Heap
	p           api.Program
	goals, vars int
}

// wait is what a goal waits for; none: it can be reduced.
func (n *runner) waits(t api.Term) []api.Name {
	sides := term.Args(t)
	switch {
	case t[0].Kind == api.Var:
		return []api.Name{t[0].Var}
	case t[0].Kind == api.Int || term.Is(t, "true", 0) || term.Is(t, "=", 2):
		return nil
	case term.Is(t, ":=", 2):
		_, _, l := arith.Value(n.h, sides[1])
		return l
	case term.Is(t, "@", 2):
		if p := n.h.Deref(sides[1]); p[0].Kind == api.Var {
			return []api.Name{p[0].Var}
		}
		return nil
	}
	return match.Try(n.h, n.p, t).Waits
}

// reduce is the commit of a goal that does not wait.
func (n *runner) reduce(g api.Goal, t api.Term) api.Commit {
	c := api.Commit{Goal: g, Clause: -1}
	var left []api.Term
	sides := term.Args(t)
	switch {
	case t[0].Kind == api.Int:
		c.Fails = true
	case term.Is(t, "true", 0):
	case term.Is(t, "=", 2):
		switch r := unify.Step(n.h, sides[0], sides[1]); r.Kind {
		case unify.Binds:
			c.Bound = []api.Binding{{Var: r.Var, Term: r.Term}}
		case unify.Parted:
			left = r.Parts
		case unify.Clash:
			c.Fails = true
		}
	case term.Is(t, ":=", 2):
		number, o, _ := arith.Value(n.h, sides[1])
		equation, _ := term.Make("=", sides[0], term.OfInt(number))
		left, c.Fails = []api.Term{equation}, o == api.Fails
	case term.Is(t, "@", 2):
		left, c.Fails = sides[:1], n.h.Deref(sides[1])[0] != term.OfInt(0)[0]
	default:
		tried := match.Try(n.h, n.p, t)
		c.Clause, c.Fails = tried.Clause, tried.Outcome == api.Fails
		if !c.Fails {
			for i := range match.Free(n.p[c.Clause]) {
				c.Fresh = append(c.Fresh, name(0, n.vars+i))
			}
			body, e := match.Body(n.p[c.Clause], tried.Locals, c.Fresh...)
			left, c.Fails = body, e == api.ErrLong
		}
	}
	if c.Fails {
		c.Fresh, left = nil, nil
	}
	n.vars += len(c.Fresh)
	for _, x := range left {
		c.Goals = append(c.Goals, api.Goal{Name: name(0, n.goals), Term: x})
		n.goals++
	}
	return c
}

// TestOneRun is E1 of one machine and one queue: what goals of a queue become is a run of the machine, and at each time the goals of both are the same.
func TestOneRun(t *testing.T) {
	texts := map[string][]string{
		"p(X) :- X > 0 | q(X) @ 0. q(X) :- Y := X + 1, r(Y). r(3).":                                            {"p(2)", "p(0)", "p(?0_90)", "q(5)", "p(1) @ 1"},
		"n(X, Y) :- X > 0 | Z := X - 1, Y = f(X, W), n(Z, W). n(0, Y) :- Y = end. c(end). c(f(X, Y)) :- c(Y).": {"c(?0_91)", "n(40, ?0_91)"},
		"d(X) :- d(f(X, X)). t(X, Y) :- known(X) | Y = 1. t(X, Y) :- known(Y) | X = 1.":                        {"d(a)", "t(?0_90, ?0_91)", "t(?0_91, ?0_92)", "?0_93 = ?0_92", "?0_93 = b", "f(?0_94, 1) = f(2, ?0_94)"},
	}
	for program, goals := range texts {
		p, _, _ := syntax.Program(program)
		m, e := model.New(p, 1)
		if e != api.OK {
			t.Fatal(program, e)
		}
		n := &runner{q: queue.New(), h: heap.New(), p: p, vars: 100}
		for _, s := range goals {
			x, _, _, _ := syntax.Term(s)
			g := api.Goal{Name: name(0, n.goals), Term: x}
			n.goals++
			if e := m.Submit(g); e != api.OK {
				t.Fatal(s, e)
			}
			n.q.Put(g)
		}
		commits, slept := n.run(t, m)
		if commits < 8 || slept == 0 {
			t.Error(program, commits, slept)
		}
		if _, waiting := n.q.Len(); len(m.Open()) != 0 || len(m.Goals()) != waiting || !m.Failed() && program[0] != 'n' {
			t.Error(program, m.Open(), m.Goals(), waiting, m.Failed())
		}
	}
}

// run goes on until no goal can go.
func (n *runner) run(t *testing.T, m *model.Model) (commits, slept int) {
	for g, ok := n.q.Next(); ok; g, ok = n.q.Next() {
		followed := n.h.Deref(g.Term)
		if l := n.waits(followed); len(l) > 0 {
			n.q.Wait(g, l...)
			slept++
		} else {
			c := n.reduce(g, followed)
			if e := m.Take(c); e != api.OK {
				t.Fatalf("Take %v: %v", c, e)
			}
			if e := m.Take(c); e != api.ErrGoal {
				t.Fatalf("Take %v again: %v", c, e)
			}
			for _, b := range c.Bound {
				n.h.Bind(b.Var, b.Term)
				n.q.Wake(b.Var)
			}
			n.q.Put(c.Goals...)
			commits++
		}
		there := slices.Concat(n.q.Ready(), n.q.Waiting())
		slices.SortFunc(there, func(a, b api.Goal) int { return a.Name.Number - b.Name.Number })
		if fmt.Sprint(there) != fmt.Sprint(m.Goals()) {
			t.Fatalf("%v, the machine has %v", there, m.Goals())
		}
	}
	return commits, slept
}
