package unify_test

import (
	"fmt"
	"math/rand"
	"slices"
	"testing"

	"purlin/api"
	"purlin/heap"
	"purlin/term"
	"purlin/unify"
)

// slowStep is one by the chapter's words; both sides are global.
func slowStep(h *heap.Heap, a, b api.Term) unify.Result {
	a, b = h.Deref(a), h.Deref(b)
	left, right := a[0].Kind == api.Var, b[0].Kind == api.Var
	switch {
	case len(a) == 1 && term.Equal(a, b):
		return done()
	case left && right && term.Less(a[0].Var, b[0].Var):
		return binds(b[0].Var, a)
	case left:
		return binds(a[0].Var, b)
	case right:
		return binds(b[0].Var, a)
	}
	l, r := term.Args(a), term.Args(b)
	if len(l) == 0 || len(l) != len(r) || a[0].Text != b[0].Text {
		return clash()
	}
	var parts []api.Term
	for i := range l {
		if len(l[i])+len(r[i])+1 > api.MaxCells {
			return clash()
		}
		parts = append(parts, structure("=", l[i], r[i]))
	}
	return parted(parts...)
}

// slowSolve has the row as it stands, and says by a new map what was bound.
func slowSolve(h *heap.Heap, steps int, row []api.Term) unify.Solved {
	s := unify.Solved{Outcome: api.Suspends}
	own := heap.New()
	for _, b := range h.Bindings() {
		own.Bind(b.Var, b.Term)
	}
	for len(row) > 0 && s.Steps < steps {
		sides := term.Args(row[0])
		r := slowStep(own, sides[0], sides[1])
		s.Steps++
		switch r.Kind {
		case unify.Clash:
			return unify.Solved{Outcome: api.Fails, Steps: s.Steps}
		case unify.Binds:
			own.Bind(r.Var, r.Term)
			s.Bound = append(s.Bound, api.Binding{Var: r.Var, Term: r.Term})
		}
		row = slices.Concat(r.Parts, row[1:])
	}
	s.Left = row
	if len(row) == 0 {
		s.Outcome = api.Commits
	}
	return s
}

// someTerm is a global one, seldom a long one.
func someTerm(r *rand.Rand, deep int) api.Term {
	switch n := r.Intn(12); {
	case n < 5:
		return variable(r.Intn(3), r.Intn(4))
	case n == 5:
		return number(r.Intn(2))
	case n == 6:
		return atom([]string{"a", "b"}[r.Intn(2)])
	case n == 7 && r.Intn(6) == 0:
		return nested([]int{100, 126, 127, 128, 200, 255}[r.Intn(6)], someTerm(r, 0))
	case deep == 0:
		return number(1)
	}
	var l []api.Term
	for range 1 + r.Intn(2) {
		l = append(l, someTerm(r, deep-1))
	}
	x := structure([]string{"f", "f", "f", "="}[r.Intn(4)], l...)
	if !term.Right(x) {
		return number(0)
	}
	return x
}

// likely is a term with another one's form here and there.
func likely(r *rand.Rand, x api.Term) api.Term {
	if len(x) > 60 && r.Intn(2) == 0 {
		return append(slices.Clone(x[:len(x)-1]), variable(r.Intn(3), r.Intn(4))...)
	}
	if len(x) > 60 {
		return slices.Clone(x)
	}
	if x[0].Kind != api.Struct || r.Intn(8) == 0 {
		if r.Intn(3) == 0 {
			return slices.Clone(x)
		}
		return someTerm(r, 2)
	}
	var l []api.Term
	for _, a := range term.Args(x) {
		l = append(l, likely(r, a))
	}
	made, e := term.Make(x[0].Text, l...)
	if e != api.OK {
		return number(1)
	}
	return made
}

func someEquation(r *rand.Rand) api.Term {
	for {
		a := someTerm(r, 3)
		b := someTerm(r, 3)
		if r.Intn(2) == 0 {
			b = likely(r, a)
		}
		if e, err := term.Make("=", a, b); err == api.OK {
			return e
		}
	}
}

func someHeap(r *rand.Rand) *heap.Heap {
	h := heap.New()
	for range r.Intn(8) {
		h.Bind(name(r.Intn(3), r.Intn(4)), someTerm(r, 2))
	}
	return h
}

// TestStepsByTheirWords is P8.1, P8.5 and P8.6.
func TestStepsByTheirWords(t *testing.T) {
	met := map[unify.Kind]int{}
	r := rand.New(rand.NewSource(1))
	for range 40000 {
		h, a := someHeap(r), someTerm(r, 3)
		b := likely(r, a)
		got := unify.Step(h, a, b)
		if want := slowStep(h, a, b); !sameStep(got, want) {
			t.Fatalf("Step(%v, %v) by %v: %v, want %v", a, b, h.Bindings(), got, want)
		}
		if back := unify.Step(h, b, a); !sameStep(back, turned(got)) {
			t.Fatalf("Step(%v, %v) by %v: %v, turned about %v", a, b, h.Bindings(), got, back)
		}
		if got.Kind == unify.Binds && h.Bind(got.Var, got.Term) != api.OK {
			t.Fatalf("Step(%v, %v): %v cannot be bound", a, b, got)
		}
		met[got.Kind]++
	}
	for _, k := range []unify.Kind{unify.Done, unify.Binds, unify.Parted, unify.Clash} {
		if met[k] < 1500 {
			t.Errorf("kind %v: %d times", k, met[k])
		}
	}
}

// TestSolveByItsWords is P8.2 to P8.5.
func TestSolveByItsWords(t *testing.T) {
	met := map[api.Outcome]int{}
	again, resolved := map[api.Outcome]int{}, 0
	r := rand.New(rand.NewSource(2))
	for range 20000 {
		h := someHeap(r)
		var row []api.Term
		for range r.Intn(5) {
			row = append(row, someEquation(r))
		}
		steps := []int{r.Intn(12) - 1, 60}[r.Intn(2)]
		got := unify.Solve(h, steps, row...)
		if want := slowSolve(h, steps, row); !sameSolved(got, want) {
			t.Fatalf("Solve(%d, %v) by %v: %v, want %v", steps, row, h.Bindings(), got, want)
		}
		met[got.Outcome]++
		own := bindAll(t, h, got)
		if got.Outcome != api.Commits {
			continue
		}
		second := unify.Solve(own, 400, row...)
		if second.Outcome == api.Fails && !tooLong(own, row) || len(second.Bound) > 0 {
			t.Fatalf("Solve(%v) by what it made, %v: %v", row, own.Bindings(), second)
		}
		again[second.Outcome]++
		resolved += resolvedAlike(t, own, row)
	}
	if met[api.Commits] < 3000 || met[api.Fails] < 3000 || met[api.Suspends] < 1000 || again[api.Commits] < 2000 || again[api.Fails] < 5 || resolved < 2000 {
		t.Error("too few:", met, again, resolved)
	}
}

// bindAll is P8.3, its first part, and P8.5.
func bindAll(t *testing.T, h *heap.Heap, s unify.Solved) *heap.Heap {
	t.Helper()
	own := h.Fork()
	for _, b := range s.Bound {
		if len(b.Term) == 1 && b.Term[0].Kind == api.Var && !term.Less(b.Term[0].Var, b.Var) {
			t.Fatalf("%v does not descend", b)
		}
		if e := own.Bind(b.Var, b.Term); e != api.OK {
			t.Fatalf("Bind(%v): %v", b, e)
		}
	}
	return own
}

// tooLong tells whether equations come to a part that is too long, by a map that binds all else: the only clash that is left.
func tooLong(h *heap.Heap, row []api.Term) bool {
	for range 400 {
		if len(row) == 0 {
			return false
		}
		sides := term.Args(row[0])
		r := slowStep(h, sides[0], sides[1])
		if r.Kind == unify.Clash {
			l, k := term.Args(h.Deref(sides[0])), term.Args(h.Deref(sides[1]))
			for i := range min(len(l), len(k)) {
				if len(l[i])+len(k[i])+1 > api.MaxCells {
					return true
				}
			}
			return false
		}
		row = slices.Concat(r.Parts, row[1:])
	}
	return false
}

// resolvedAlike is P8.4.
func resolvedAlike(t *testing.T, h *heap.Heap, row []api.Term) (n int) {
	t.Helper()
	for _, x := range row {
		sides := term.Args(x)
		a, ea := h.Resolve(sides[0])
		b, eb := h.Resolve(sides[1])
		if ea != api.OK || eb != api.OK {
			continue
		}
		if !term.Equal(a, b) {
			t.Fatalf("%v is solved by %v: %v, %v", x, h.Bindings(), a, b)
		}
		n++
	}
	return n
}

// roomy is a term with room behind its end that is marked.
func roomy(t api.Term) api.Term {
	r := append(make(api.Term, 0, len(t)+4), t...)
	for i := range r[len(t):cap(r)] {
		r[len(t):cap(r)][i] = api.Cell{Kind: 77, Text: "mark", N: i}
	}
	return r
}

func whole(l []api.Term) string {
	s := ""
	for _, t := range l[:cap(l)] {
		s += fmt.Sprintln(len(t), t[:cap(t)])
	}
	return s
}

// apart wipes answers one by one: none lies in another one.
func apart(t *testing.T, answers []api.Term) {
	t.Helper()
	for i, a := range answers {
		others := fmt.Sprint(answers[:i], answers[i+1:])
		for j := range a[:cap(a)] {
			a[:cap(a)][j] = api.Cell{Kind: 99}
		}
		if fmt.Sprint(answers[:i], answers[i+1:]) != others {
			t.Error("an answer lies in another one")
		}
	}
}

// TestNothingIsShared is P3: what is handed in stays, spare room and the map too; what is answered is the caller's.
func TestNothingIsShared(t *testing.T) {
	h := values(t)
	bindings := fmt.Sprint(h.Bindings())
	row := make([]api.Term, 0, 9)
	for _, x := range termsOf(t, "?0_1 = f(1, ?1_0)", "f(?1_1, a) = f(?0_2, a)", "g(?3_1, f(1)) = g(?1_0, f(?3_2))", "?3_3 = f(f(1))", "?2_0 = ?3_2") {
		row = append(row, roomy(x))
	}
	row[:6][5] = api.Term{{Kind: 78}}
	before := whole(row)
	for steps := range 12 {
		first := unify.Solve(h, steps, row...)
		text := fmt.Sprint(first)
		second := unify.Solve(h, steps, row...)
		answers := slices.Clone(first.Left)
		for _, b := range first.Bound {
			answers = append(answers, b.Term)
		}
		apart(t, answers)
		for i := range first.Left[:cap(first.Left)] {
			first.Left[:cap(first.Left)][i] = nil
		}
		if fmt.Sprint(second) != text || fmt.Sprint(unify.Solve(h, steps, row...)) != text {
			t.Error("an answer lies in a later one, or in what is kept")
		}
	}
	for _, x := range row {
		a, b, _ := unify.Equation(x)
		r := unify.Step(h, roomy(a), roomy(b))
		apart(t, append(slices.Clone(r.Parts), a, b, r.Term))
		c, d, _ := unify.Equation(x)
		in := roomy(d)
		r = unify.Step(h, c, in)
		apart(t, append(slices.Clone(r.Parts), r.Term))
		if !term.Equal(in, d) || whole([]api.Term{in}) != whole([]api.Term{roomy(d)}) {
			t.Error("an answer lies in what was handed in:", in[:cap(in)])
		}
	}
	if whole(row) != before {
		t.Error("what was handed in is changed:", whole(row))
	}
	if fmt.Sprint(h.Bindings()) != bindings {
		t.Error("the map is changed:", h.Bindings())
	}
}

// FuzzRows gives rows of cells, right ones and others: each call ends, and tells what it may.
func FuzzRows(f *testing.F) {
	palette := []api.Cell{
		number(1)[0], atom("a")[0], variable(0, 0)[0], variable(1, 1)[0], variable(1, 2)[0], {Kind: api.Struct, Text: "f", N: 1},
		{Kind: api.Struct, Text: "f", N: 2}, {Kind: api.Struct, Text: "=", N: 2}, variable(-1, 0)[0], {Kind: 9}, {Kind: api.Struct, Text: "="}, {Kind: api.Struct, Text: "=", N: 1 << 62},
	}
	row := func(l []byte) (x api.Term) {
		for _, b := range l {
			x = append(x, palette[int(b)%len(palette)])
		}
		return x
	}
	for a := range byte(len(palette)) {
		for b := range byte(len(palette)) {
			f.Add([]byte{7, a, b}, []byte{7, b, a}, 5)
			f.Add([]byte{7, 5, a, 6, a, b}, []byte{a, b}, 3)
		}
	}
	f.Fuzz(func(t *testing.T, a, b []byte, steps int) {
		h := heap.New()
		h.Bind(name(1, 1), structure("f", variable(1, 2)))
		x, y := row(a), row(b)
		step := unify.Step(h, x, y)
		if term.Global(x) && term.Global(y) && !sameStep(step, slowStep(h, x, y)) || !(term.Global(x) && term.Global(y)) && !sameStep(step, clash()) {
			t.Fatal(x, y, step)
		}
		steps = min(steps, 200)
		got := unify.Solve(h, steps, x, y)
		want := unify.Solved{Outcome: api.Fails}
		_, _, left := unify.Equation(x)
		_, _, right := unify.Equation(y)
		if left && right && term.Global(x) && term.Global(y) {
			want = slowSolve(h, steps, []api.Term{x, y})
		}
		if !sameSolved(got, want) {
			t.Fatal(x, y, got, want)
		}
	})
}
