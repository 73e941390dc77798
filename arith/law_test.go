package arith_test

import (
	"fmt"
	"math/rand"
	"slices"
	"testing"

	"purlin/api"
	"purlin/arith"
	"purlin/heap"
	"purlin/term"
)

// slowSum is a sum by the chapter's words: its number, whether it fails, and for what it waits.
func slowSum(h *heap.Heap, x api.Term) (n int, fails bool, waits []api.Name) {
	switch c := x[0]; c.Kind {
	case api.Int:
		return c.N, false, nil
	case api.Var:
		switch d := h.Deref(x)[0]; d.Kind {
		case api.Int:
			return d.N, false, nil
		case api.Var:
			return 0, false, []api.Name{d.Var}
		}
		return 0, true, nil
	case api.Atom:
		return 0, true, nil
	}
	args := term.Args(x)
	arity := map[string]int{"+": 2, "-": 2, "*": 2, "div": 2, "mod": 2, "min": 2, "max": 2, "abs": 1}
	if arity[x[0].Text] != len(args) {
		return 0, true, nil
	}
	numbers, fails, waits := slowSums(h, args...)
	if fails || len(waits) > 0 {
		return 0, fails, waits
	}
	exact := exactly(x[0].Text, numbers...)
	if exact == nil || !inside(int(exact.Int64())) {
		return 0, true, nil
	}
	return int(exact.Int64()), false, nil
}

func slowSums(h *heap.Heap, l ...api.Term) (numbers []int, fails bool, waits []api.Name) {
	for _, x := range l {
		n, f, w := slowSum(h, x)
		numbers, fails, waits = append(numbers, n), fails || f, append(waits, w...)
	}
	if fails {
		return nil, true, nil
	}
	return numbers, false, once(waits)
}

// once are names without those that came ahead.
func once(l []api.Name) []api.Name {
	var out []api.Name
	for _, v := range l {
		if !slices.Contains(out, v) {
			out = append(out, v)
		}
	}
	return out
}

func slowGuard(h *heap.Heap, g api.Term) (holds bool, waits []api.Name) {
	if term.Is(g, "true", 0) {
		return true, nil
	}
	args := term.Args(g)
	switch fmt.Sprint(g[0].Text, "/", len(args)) {
	case "</2", "=</2", ">/2", ">=/2", "=:=/2", "=\\=/2":
		l, fails, waits := slowSums(h, args...)
		if fails || len(waits) > 0 {
			return false, waits
		}
		return map[string]bool{"<": l[0] < l[1], "=<": l[0] <= l[1], ">": l[0] > l[1], ">=": l[0] >= l[1], "=:=": l[0] == l[1], "=\\=": l[0] != l[1]}[g[0].Text], nil
	case "integer/1", "atom/1", "compound/1", "known/1":
		c := h.Deref(args[0])[0]
		if c.Kind == api.Var {
			return false, []api.Name{c.Var}
		}
		return g[0].Text == "known" || map[string]api.Kind{"integer": api.Int, "atom": api.Atom, "compound": api.Struct}[g[0].Text] == c.Kind, nil
	case "equal/2", "unlike/2":
		return slowLike(g[0].Text == "equal", h.Deref(args[0]), h.Deref(args[1]))
	}
	return false, nil
}

func slowLike(equal bool, a, b api.Term) (holds bool, waits []api.Name) {
	if a[0].Kind == api.Var && term.Equal(a, b) && !equal {
		return false, nil
	}
	for _, c := range []api.Cell{a[0], b[0]} {
		if c.Kind == api.Var {
			waits = append(waits, c.Var)
		}
	}
	if len(waits) > 0 {
		return false, once(waits)
	}
	same := len(a) == 1 && term.Equal(a, b)
	if equal {
		return same, nil
	}
	return !same && (len(a) == 1 || len(b) == 1), nil
}

// leaves are the least parts that sums and guards have; most of their variables are known by some maps.
func leaves() []string {
	return []string{"0", "1", "-7", "2147483648", "a", "?0_0", "?0_1", "?0_2", "?1_0", "?1_1", "f(1)", "f(?0_0)"}
}

func someSum(r *rand.Rand, deep int) string {
	if deep == 0 || r.Intn(3) == 0 {
		n := len(leaves())
		if r.Intn(8) > 0 {
			n -= 2
		}
		if s := leaves()[r.Intn(n)]; s != "a" || r.Intn(6) == 0 {
			return s
		}
	}
	part := func() string { return someSum(r, max(deep-1, 0)) }
	switch n := r.Intn(30); {
	case n < 12:
		return "(" + part() + []string{" + ", " - ", " * "}[n%3] + part() + ")"
	case n < 24:
		return []string{"div", "mod", "min", "max"}[n%4] + "(" + part() + ", " + part() + ")"
	case n < 28:
		return "abs(" + part() + ")"
	}
	return []string{"abs(1, 2)", "min(" + part() + ")"}[r.Intn(2)]
}

func someGuard(r *rand.Rand) string {
	leaf := func() string { return leaves()[r.Intn(len(leaves()))] }
	switch n := r.Intn(20); {
	case n < 12:
		return someSum(r, 3) + []string{" < ", " =< ", " > ", " >= ", " =:= ", " =\\= "}[n%6] + someSum(r, 3)
	case n < 15:
		return []string{"integer", "atom", "compound", "known"}[r.Intn(4)] + "(" + leaf() + ")"
	case n < 18:
		return []string{"equal", "unlike"}[n%2] + "(" + leaf() + ", " + leaf() + ")"
	}
	return []string{"true", "false", leaf(), "known(1, 2)", "equal(" + leaf() + ")"}[r.Intn(5)]
}

// someHeap has values of some variables, links among them.
func someHeap(t *testing.T, r *rand.Rand) *heap.Heap {
	h := heap.New()
	more(t, r, h)
	return h
}

// more binds some of those that have no value yet.
func more(t *testing.T, r *rand.Rand, h *heap.Heap) {
	for _, v := range []api.Name{name(0, 0), name(0, 1), name(0, 2), name(1, 0), name(1, 1)} {
		if r.Intn(2) == 0 {
			h.Bind(v, termOf(t, leaves()[r.Intn(len(leaves()))]))
		}
	}
}

func outcomeOf(holds bool, waits []api.Name) api.Outcome {
	switch {
	case len(waits) > 0:
		return api.Suspends
	case holds:
		return api.Commits
	}
	return api.Fails
}

// mayWait is P6.4: of a term all that stands in it, and in the chains from there.
func mayWait(t *testing.T, h *heap.Heap, x api.Term, waits []api.Name) {
	t.Helper()
	var lead []api.Name
	for _, v := range term.Vars(x) {
		lead = append(lead, term.Vars(h.Chain(term.OfVar(v))...)...)
	}
	for _, v := range waits {
		if _, bound := h.Value(v); bound || !slices.Contains(lead, v) {
			t.Fatalf("%v waits for %v by %v", x, v, h.Bindings())
		}
	}
	if !slices.Equal(once(waits), waits) {
		t.Fatalf("%v waits for one twice: %v", x, waits)
	}
}

// TestSumsByTheirWords is P6.1, P6.3 and P6.4 of sums.
func TestSumsByTheirWords(t *testing.T) {
	met := map[api.Outcome]int{}
	r := rand.New(rand.NewSource(1))
	for range 20000 {
		x, h := termOf(t, someSum(r, 4)), someHeap(t, r)
		n, o, waits := arith.Value(h, x)
		number, fails, slow := slowSum(h, x)
		if want := outcomeOf(!fails, slow); o != want || n != number || !slices.Equal(waits, slow) {
			t.Fatalf("Value(%v) by %v: %d, %v, %v; want %d, %v, %v", x, h.Bindings(), n, o, waits, number, want, slow)
		}
		met[o]++
		mayWait(t, h, x, waits)
		more(t, r, h)
		if later, then, _ := arith.Value(h, x); o != api.Suspends && (later != n || then != o) {
			t.Fatalf("Value(%v) was %d, %v, is by %v %d, %v", x, n, o, h.Bindings(), later, then)
		}
	}
	for _, o := range []api.Outcome{api.Commits, api.Fails, api.Suspends} {
		if met[o] < 1000 {
			t.Errorf("%d times %v", met[o], o)
		}
	}
}

// TestGuardsByTheirWords is P6.1, P6.3 and P6.4 of guards, alone and together.
func TestGuardsByTheirWords(t *testing.T) {
	met, metAll := map[api.Outcome]int{}, map[api.Outcome]int{}
	r := rand.New(rand.NewSource(2))
	for range 8000 {
		h := someHeap(t, r)
		var l []api.Term
		var waitsOfAll []api.Name
		want := api.Commits
		for range r.Intn(4) {
			g := termOf(t, someGuard(r))
			l = append(l, g)
			o, waits := arith.Guard(h, g)
			holds, slow := slowGuard(h, g)
			if o != outcomeOf(holds, slow) || !slices.Equal(waits, slow) {
				t.Fatalf("Guard(%v) by %v: %v, %v; want %v, %v", g, h.Bindings(), o, waits, holds, slow)
			}
			met[o]++
			mayWait(t, h, g, waits)
			waitsOfAll = append(waitsOfAll, waits...)
			if o == api.Fails || o == api.Suspends && want == api.Commits {
				want = o
			}
		}
		if want == api.Fails {
			waitsOfAll = nil
		}
		o, waits := arith.Guards(h, l...)
		if o != want || !slices.Equal(waits, once(waitsOfAll)) {
			t.Fatalf("Guards(%v) by %v: %v, %v; want %v, %v", l, h.Bindings(), o, waits, want, once(waitsOfAll))
		}
		metAll[o]++
		more(t, r, h)
		if later, _ := arith.Guards(h, l...); o != api.Suspends && later != o {
			t.Fatalf("Guards(%v) was %v, is by %v %v", l, o, h.Bindings(), later)
		}
	}
	for _, o := range []api.Outcome{api.Commits, api.Fails, api.Suspends} {
		if met[o] < 500 || metAll[o] < 500 {
			t.Errorf("%v %d times of one, %d times of some", o, met[o], metAll[o])
		}
	}
}

// TestJustOneHolds is P6.5.
func TestJustOneHolds(t *testing.T) {
	r := rand.New(rand.NewSource(3))
	pairs := [][2]string{{"<", ">="}, {"=<", ">"}, {"=:=", "=\\="}}
	checked := 0
	for range 5000 {
		h, a, b := someHeap(t, r), termOf(t, someSum(r, 2)), termOf(t, someSum(r, 2))
		_, left, _ := arith.Value(h, a)
		_, right, _ := arith.Value(h, b)
		for _, p := range pairs {
			var o [2]api.Outcome
			for i := range o {
				g, _ := term.Make(p[i], a, b)
				o[i], _ = arith.Guard(h, g)
			}
			if left == api.Commits && right == api.Commits {
				checked++
				if o != [2]api.Outcome{api.Commits, api.Fails} && o != [2]api.Outcome{api.Fails, api.Commits} {
					t.Fatalf("%v of %v and %v: %v", p, a, b, o)
				}
			} else if o[0] != o[1] || o[0] == api.Commits {
				t.Fatalf("%v of %v and %v: %v", p, a, b, o)
			}
		}
	}
	if checked < 1000 {
		t.Error("pairs:", checked)
	}
	for _, x := range leaves() {
		for _, y := range leaves() {
			oneOfEqualAndUnlike(t, termOf(t, x), termOf(t, y))
		}
	}
}

func oneOfEqualAndUnlike(t *testing.T, x, y api.Term) {
	t.Helper()
	h := heap.New()
	h.Bind(name(0, 1), termOf(t, "a"))
	h.Bind(name(1, 0), termOf(t, "f(1)"))
	equal, _ := term.Make("equal", x, y)
	unlike, _ := term.Make("unlike", x, y)
	e, _ := arith.Guard(h, equal)
	u, _ := arith.Guard(h, unlike)
	if e == api.Suspends || u == api.Suspends {
		return
	}
	structures := len(h.Deref(x)) > 1 && len(h.Deref(y)) > 1
	if structures && (e != api.Fails || u != api.Fails) || !structures && (e == api.Commits) == (u == api.Commits) {
		t.Errorf("equal %v, unlike %v of %v and %v", e, u, x, y)
	}
}

// TestNothingIsShared is P3, and P6: neither terms nor the map are changed, and what is answered is the caller's.
func TestNothingIsShared(t *testing.T) {
	h := known(t)
	bindings := fmt.Sprint(h.Bindings())
	sum := append(make(api.Term, 0, 30), termOf(t, "?1_0 + ?0_9 * ?1_1 + ?1_6")...)
	guard := append(make(api.Term, 0, 30), termOf(t, "equal(?1_0, ?0_9)")...)
	numbers := append(make([]int, 0, 5), 7, -2)
	mark := func(x api.Term) {
		for i := range x[len(x):cap(x)] {
			x[len(x):cap(x)][i] = api.Cell{Kind: 77, N: i}
		}
	}
	mark(sum)
	mark(guard)
	numbers[:3][2] = 77
	guards := append(make([]api.Term, 0, 3), guard, guard)
	guards[:3][2] = api.Term{{Kind: 78}}
	before := fmt.Sprint(sum[:cap(sum)], guard[:cap(guard)], guards[:cap(guards)], numbers[:cap(numbers)])
	for range 3 {
		_, _, a := arith.Value(h, sum)
		_, b := arith.Guard(h, guard)
		_, c := arith.Guards(h, guards...)
		arith.Reckon("mod", numbers...)
		for _, l := range [][]api.Name{a, b, c} {
			if !slices.Equal(l, []api.Name{name(0, 0), name(0, 9)}) {
				t.Fatal(l)
			}
			for i := range l[:cap(l)] {
				l[:cap(l)][i] = name(99, 99)
			}
		}
	}
	if fmt.Sprint(sum[:cap(sum)], guard[:cap(guard)], guards[:cap(guards)], numbers[:cap(numbers)]) != before {
		t.Error("what was handed in is changed")
	}
	if fmt.Sprint(h.Bindings()) != bindings {
		t.Error("the map is changed:", h.Bindings())
	}
}

// FuzzRows gives rows of cells of all kinds, right ones and others: each call ends, and tells what it may.
func FuzzRows(f *testing.F) {
	palette := []api.Cell{
		{Kind: api.Int, N: 3}, {Kind: api.Int}, {Kind: api.Atom, Text: "a"}, {Kind: api.Atom, Text: "true"},
		{Kind: api.Var, Var: name(0, 0)}, {Kind: api.Var, Var: name(1, 1)}, {Kind: api.Struct, Text: "+", N: 2},
		{Kind: api.Struct, Text: "div", N: 2}, {Kind: api.Struct, Text: "abs", N: 1}, {Kind: api.Struct, Text: "<", N: 2},
		{Kind: api.Struct, Text: "equal", N: 2}, {Kind: api.Struct, Text: "known", N: 1}, {Kind: api.Struct, Text: "abs", N: 2},
		{Kind: 9}, {Kind: api.Struct, Text: "+", N: 1 << 62}, {Kind: api.Struct, Text: "+"},
	}
	for a := range byte(len(palette)) {
		f.Add([]byte{a})
		for b := range byte(len(palette)) {
			for c := range byte(len(palette)) {
				f.Add([]byte{a, b, c})
			}
		}
	}
	f.Fuzz(func(t *testing.T, row []byte) {
		var x api.Term
		for _, b := range row {
			x = append(x, palette[int(b)%len(palette)])
		}
		h := heap.New()
		h.Bind(name(1, 1), api.Term{{Kind: api.Int, N: 5}})
		n, o, waits := arith.Value(h, x)
		g, guardWaits := arith.Guard(h, x)
		if !term.Right(x) {
			if n != 0 || o != api.Fails || g != api.Fails || len(waits)+len(guardWaits) > 0 {
				t.Fatal(x, n, o, waits, g, guardWaits)
			}
			return
		}
		number, fails, slow := slowSum(h, x)
		if o != outcomeOf(!fails, slow) || n != number || !slices.Equal(waits, slow) {
			t.Fatal(x, n, o, waits)
		}
		holds, slow := slowGuard(h, x)
		if g != outcomeOf(holds, slow) || !slices.Equal(guardWaits, slow) {
			t.Fatal(x, g, guardWaits)
		}
	})
}
