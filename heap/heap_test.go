package heap_test

import (
	"math"
	"slices"
	"testing"

	"purlin/api"
	"purlin/heap"
	"purlin/syntax"
	"purlin/term"
)

// The calls have the forms that chapter 5 lists.
var (
	_ func() *heap.Heap                                = heap.New
	_ func(*heap.Heap, api.Name, api.Term) api.Errno   = (*heap.Heap).Bind
	_ func(*heap.Heap, api.Name) (api.Term, bool)      = (*heap.Heap).Value
	_ func(*heap.Heap, api.Term) api.Term              = (*heap.Heap).Deref
	_ func(*heap.Heap, api.Term) []api.Term            = (*heap.Heap).Chain
	_ func(*heap.Heap, api.Term) (api.Term, api.Errno) = (*heap.Heap).Resolve
	_ func(*heap.Heap, ...api.Name)                    = (*heap.Heap).Drop
	_ func(*heap.Heap) []api.Binding                   = (*heap.Heap).Bindings
	_ func(*heap.Heap) *heap.Heap                      = (*heap.Heap).Fork
)

func name(node, number int) api.Name { return api.Name{Node: node, Number: number} }

func number(n int) api.Term { return api.Term{{Kind: api.Int, N: n}} }

func atom(s string) api.Term { return api.Term{{Kind: api.Atom, Text: s}} }

func variable(node, n int) api.Term { return api.Term{{Kind: api.Var, Var: name(node, n)}} }

func f(args ...api.Term) api.Term {
	return append(api.Term{{Kind: api.Struct, Text: "f", N: len(args)}}, slices.Concat(args...)...)
}

// nested is a term of so many cells: f(f(..(last)..)).
func nested(cells int, last api.Term) api.Term {
	for len(last) < cells {
		last = f(last)
	}
	return last
}

func termOf(t *testing.T, text string) api.Term {
	t.Helper()
	x, _, e, at := syntax.Term(text)
	if e != api.OK {
		t.Fatalf("%q: %v at %d", text, e, at)
	}
	return x
}

// heapOf binds each variable to the term that stands behind it, as texts: ?0_1, f(a), ?0_2, ?0_1.
func heapOf(t *testing.T, texts ...string) *heap.Heap {
	t.Helper()
	h := heap.New()
	for i := 0; i < len(texts); i += 2 {
		if e := h.Bind(termOf(t, texts[i])[0].Var, termOf(t, texts[i+1])); e != api.OK {
			t.Fatalf("Bind(%s, %s): %v", texts[i], texts[i+1], e)
		}
	}
	return h
}

func sameAll(a, b []api.Term) bool { return slices.EqualFunc(a, b, term.Equal) }

func TestNewHasNone(t *testing.T) {
	h := heap.New()
	if h == nil || len(h.Bindings()) != 0 {
		t.Fatal("New:", h)
	}
	if x, ok := h.Value(name(0, 0)); ok || len(x) != 0 {
		t.Error("Value of none:", x, ok)
	}
	h.Bind(name(0, 0), number(1))
	if len(heap.New().Bindings()) != 0 {
		t.Error("New has another one's values")
	}
}

// TestExamples are those of chapter 5.
func TestExamples(t *testing.T) {
	h := heapOf(t, "?0_1", "f(?0_2)", "?0_2", "3")
	if r, e := h.Resolve(variable(0, 1)); e != api.OK || !term.Equal(r, f(number(3))) {
		t.Error("Resolve:", r, e)
	}
	h = heap.New()
	if e := h.Bind(name(0, 1), variable(0, 2)); e != api.ErrOrder {
		t.Error("up:", e)
	}
	if e := h.Bind(name(0, 2), variable(0, 1)); e != api.OK {
		t.Error("down:", e)
	}
	if x, ok := h.Value(name(0, 2)); !ok || !term.Equal(x, variable(0, 1)) {
		t.Error("the link:", x, ok)
	}
	round := heap.New()
	if e := round.Bind(name(0, 0), f(variable(0, 0))); e != api.OK {
		t.Error("X = f(X):", e)
	}
	if r, e := round.Resolve(variable(0, 0)); e != api.ErrLong || len(r) != 0 {
		t.Error("Resolve of X = f(X):", r, e)
	}
}

// notGlobal are terms that no variable gets: none at all, not right, or a clause's.
func notGlobal() []api.Term {
	return []api.Term{
		nil, {}, {{}}, {{Kind: 9, N: 1}}, number(api.MaxNumber + 1), number(-api.MaxNumber - 1), number(math.MinInt),
		atom(""), atom("A"), atom("="), {{Kind: api.Atom, Text: "a", N: 1}}, {{Kind: api.Int, N: 1, Var: name(0, 1)}},
		variable(-1, 0), variable(-2, 0), variable(api.MaxNodes, 0), variable(0, -1), {{Kind: api.Var, Text: "x"}},
		f(), f(variable(-1, 0)), f(number(1), variable(-1, 3)), f(number(1))[:1], append(f(number(1)), number(2)...),
		append(number(1), number(1)...), append(variable(0, 0), variable(0, 0)...), nested(api.MaxCells+1, number(1)),
		f(slices.Repeat([]api.Term{number(1)}, api.MaxArity+1)...),
	}
}

// notVariables are names that no variable has that a node made.
func notVariables() []api.Name {
	return []api.Name{
		name(-1, 0), name(-2, 0), name(math.MinInt, 0), name(api.MaxNodes, 0), name(math.MaxInt, 1),
		name(0, -1), name(3, math.MinInt), name(-1, -1), name(api.MaxNodes, -1),
	}
}

func TestBindTakesGlobalTerms(t *testing.T) {
	h := heap.New()
	for i, x := range []api.Term{
		number(0), number(api.MaxNumber), number(-api.MaxNumber), atom("a"), atom("true"), f(number(1)),
		variable(0, 0), variable(3, 1), f(variable(3, math.MaxInt)), nested(api.MaxCells, number(1)),
		nested(api.MaxCells, variable(2, 2)), termOf(t, "?0_1 = ?0_1"), termOf(t, "a @ 1 + 2"),
		f(slices.Repeat([]api.Term{variable(3, 2)}, api.MaxArity)...),
	} {
		v := name(3, 2+i)
		if e := h.Bind(v, x); e != api.OK {
			t.Errorf("Bind(%v, %v): %v", v, x, e)
		}
		if got, ok := h.Value(v); !ok || !term.Equal(got, x) {
			t.Errorf("Value(%v): %v, %v; want %v", v, got, ok, x)
		}
	}
	for _, v := range []api.Name{name(0, 0), name(0, math.MaxInt), name(3, 0), name(1, 5)} {
		if e := h.Bind(v, atom("b")); e != api.OK {
			t.Errorf("Bind(%v, b): %v", v, e)
		}
	}
}

func TestBindRefusesForms(t *testing.T) {
	h := heapOf(t, "?1_0", "a")
	for _, x := range notGlobal() {
		for _, v := range []api.Name{name(1, 1), name(1, 0), name(-1, 0)} {
			if e := h.Bind(v, x); e != api.ErrForm {
				t.Errorf("Bind(%v, %v): %v, want ErrForm", v, x, e)
			}
		}
	}
	for _, v := range notVariables() {
		for _, x := range []api.Term{number(1), atom("a"), f(variable(0, 0)), variable(0, 0), variable(3, 3), nil} {
			if e := h.Bind(v, x); e != api.ErrForm {
				t.Errorf("Bind(%v, %v): %v, want ErrForm", v, x, e)
			}
		}
		if x, ok := h.Value(v); ok || len(x) != 0 {
			t.Errorf("Value(%v): %v, %v", v, x, ok)
		}
	}
	if l := h.Bindings(); len(l) != 1 || l[0].Var != name(1, 0) {
		t.Error("what was refused is there:", l)
	}
}

func TestBindOnce(t *testing.T) {
	h := heapOf(t, "?1_0", "a", "?1_1", "?1_0")
	for _, x := range []api.Term{number(1), atom("a"), f(number(1)), variable(0, 0), variable(1, 0), variable(1, 1), variable(3, 3)} {
		for _, v := range []api.Name{name(1, 0), name(1, 1)} {
			if e := h.Bind(v, x); e != api.ErrBound {
				t.Errorf("Bind(%v, %v): %v, want ErrBound", v, x, e)
			}
		}
	}
	if x, ok := h.Value(name(1, 0)); !ok || !term.Equal(x, atom("a")) {
		t.Error("the value is another one:", x, ok)
	}
}

func TestLinksDescend(t *testing.T) {
	rising := []api.Name{name(0, 0), name(0, 1), name(0, math.MaxInt), name(1, 0), name(1, 7), name(3, 0), name(3, 9)}
	for i, v := range rising {
		for j, w := range rising {
			want := api.OK
			if j >= i {
				want = api.ErrOrder
			}
			h := heap.New()
			if e := h.Bind(v, variable(w.Node, w.Number)); e != want {
				t.Errorf("Bind(%v, %v): %v, want %v", v, w, e, want)
			}
			if _, ok := h.Value(v); ok != (want == api.OK) {
				t.Errorf("Value(%v) behind Bind to %v: %v", v, w, ok)
			}
			// What stands in a structure is no link.
			if e := heap.New().Bind(v, f(variable(w.Node, w.Number))); e != api.OK {
				t.Errorf("Bind(%v, f(%v)): %v", v, w, e)
			}
		}
	}
}

func TestChain(t *testing.T) {
	h := heapOf(t, "?0_2", "?0_1", "?1_0", "?0_2", "?0_1", "g(?1_0)", "?2_0", "?0_9", "?3_3", "7")
	g := termOf(t, "g(?1_0)")
	for _, c := range []struct {
		t    api.Term
		want []api.Term
	}{
		{nil, nil}, {api.Term{}, nil},
		{number(1), []api.Term{number(1)}}, {atom("a"), []api.Term{atom("a")}}, {g, []api.Term{g}},
		{f(variable(3, 3)), []api.Term{f(variable(3, 3))}},
		{variable(0, 0), []api.Term{variable(0, 0)}}, {variable(-1, 0), []api.Term{variable(-1, 0)}},
		{variable(3, 3), []api.Term{variable(3, 3), number(7)}},
		{variable(0, 1), []api.Term{variable(0, 1), g}},
		{variable(1, 0), []api.Term{variable(1, 0), variable(0, 2), variable(0, 1), g}},
		{variable(2, 0), []api.Term{variable(2, 0), variable(0, 9)}},
	} {
		if got := h.Chain(c.t); !sameAll(got, c.want) {
			t.Errorf("Chain(%v): %v, want %v", c.t, got, c.want)
		}
		var last api.Term
		if len(c.want) > 0 {
			last = c.want[len(c.want)-1]
		}
		if got := h.Deref(c.t); !term.Equal(got, last) {
			t.Errorf("Deref(%v): %v, want %v", c.t, got, last)
		}
	}
}

// TestChainOfWrongTerms: no error comes up; what is no variable leads nowhere.
func TestChainOfWrongTerms(t *testing.T) {
	h := heapOf(t, "?0_0", "a", "?3_3", "?0_0")
	for _, x := range notGlobal() {
		if len(x) == 1 && x[0].Kind == api.Var && x[0].Var == name(0, 0) {
			continue
		}
		want := []api.Term{x}
		if len(x) == 0 {
			want = nil
		}
		if got := h.Chain(x); !sameAll(got, want) {
			t.Errorf("Chain(%v): %v", x, got)
		}
		if got := h.Deref(x); !term.Equal(got, x) {
			t.Errorf("Deref(%v): %v", x, got)
		}
	}
}

func TestLongChain(t *testing.T) {
	h := heap.New()
	const n = 5000
	for i := range n {
		h.Bind(name(1, i+1), variable(1, i))
	}
	if l := h.Chain(variable(1, n)); len(l) != n+1 || l[n][0].Var != name(1, 0) {
		t.Error("Chain:", len(l))
	}
	h.Bind(name(1, 0), variable(0, 0))
	h.Bind(name(0, 0), f(number(1), variable(1, 7)))
	h.Bind(name(2, 0), f(variable(1, n)))
	if d := h.Deref(variable(1, n)); !term.Equal(d, f(number(1), variable(1, 7))) {
		t.Error("Deref:", d)
	}
	if r, e := h.Resolve(variable(2, 0)); e != api.ErrLong || len(r) != 0 {
		t.Error("Resolve of what holds itself far away:", r, e)
	}
	h.Drop(name(1, 3))
	if r, e := h.Resolve(variable(2, 0)); e != api.OK || !term.Equal(r, f(variable(1, 3))) {
		t.Error("Resolve:", r, e)
	}
}

func TestResolve(t *testing.T) {
	h := heapOf(t, "?0_1", "f(?0_2, ?0_3)", "?0_2", "3", "?1_0", "?0_1", "?1_1", "g(?1_0, ?0_3)", "?1_2", "?0_3", "?2_0", "h(?2_0)", "?2_1", "f(?2_2)", "?2_2", "f(?2_1)")
	for in, want := range map[string]string{
		"a": "a", "1": "1", "?0_3": "?0_3", "X": "X", "f(X, ?0_3, a)": "f(X, ?0_3, a)",
		"?0_2": "3", "?0_1": "f(3, ?0_3)", "?1_0": "f(3, ?0_3)", "?1_1": "g(f(3, ?0_3), ?0_3)", "?1_2": "?0_3",
		"f(?0_2, X, ?0_2)": "f(3, X, 3)", "?1_1 = ?1_2": "g(f(3, ?0_3), ?0_3) = ?0_3",
		"?0_2 + ?0_2 * ?0_2": "3 + 3 * 3",
	} {
		if r, e := h.Resolve(termOf(t, in)); e != api.OK || !term.Equal(r, termOf(t, want)) {
			t.Errorf("Resolve(%s): %v, %v; want %s", in, r, e, want)
		}
	}
	for _, in := range []string{"?2_0", "f(?2_0)", "f(a, ?2_0, b)", "?2_1", "?2_2", "?2_1 = ?0_3"} {
		if r, e := h.Resolve(termOf(t, in)); e != api.ErrLong || len(r) != 0 {
			t.Errorf("Resolve(%s): %v, %v; want ErrLong", in, r, e)
		}
	}
}

func TestResolveRefusesForms(t *testing.T) {
	h := heapOf(t, "?0_0", "f(?0_0)", "?0_1", "a")
	for _, x := range notGlobal() {
		want := api.ErrForm
		if term.Right(x) {
			want = api.OK // a clause's variables are right, and stay
		}
		if r, e := h.Resolve(x); e != want || e != api.OK && len(r) != 0 || e == api.OK && !term.Equal(r, x) {
			t.Errorf("Resolve(%v): %v, %v", x, r, e)
		}
	}
	for _, x := range []api.Term{append(variable(0, 0), number(1)...), f(variable(0, 0))[:1], append(f(), variable(0, 0)...)} {
		if r, e := h.Resolve(x); e != api.ErrForm || len(r) != 0 {
			t.Errorf("Resolve(%v): %v, %v; want ErrForm ahead of ErrLong", x, r, e)
		}
	}
}

func TestResolveToMaxCells(t *testing.T) {
	h := heap.New()
	h.Bind(name(0, 0), nested(api.MaxCells, number(1)))
	h.Bind(name(0, 1), nested(api.MaxCells-1, number(1)))
	h.Bind(name(0, 2), nested(127, number(1)))
	h.Bind(name(0, 3), nested(128, number(1)))
	h.Bind(name(0, 4), nested(api.MaxCells, variable(0, 5)))
	h.Bind(name(0, 5), number(1))
	h.Bind(name(1, 4), nested(api.MaxCells, variable(1, 5)))
	h.Bind(name(1, 5), f(number(1)))
	for _, c := range []struct {
		t     api.Term
		cells int
	}{
		{variable(0, 0), 256}, {f(variable(0, 0)), 0}, {f(variable(0, 1)), 256}, {f(variable(0, 1), number(1)), 0},
		{f(variable(0, 2), variable(0, 2)), 255}, {f(variable(0, 2), variable(0, 3)), 256}, {f(variable(0, 3), variable(0, 3)), 0},
		{f(number(1), variable(0, 2), variable(0, 2)), 256}, {f(variable(0, 2), variable(0, 2), number(1), number(1)), 0},
		{variable(0, 4), 256}, {variable(1, 4), 0}, {nested(256, variable(0, 5)), 256}, {nested(256, variable(1, 5)), 0},
		{nested(255, variable(1, 5)), 256}, {nested(256, number(1)), 256},
	} {
		r, e := h.Resolve(c.t)
		if len(r) != c.cells || (e == api.OK) != (c.cells > 0) || e != api.OK && e != api.ErrLong {
			t.Errorf("Resolve(%v): %d cells, %v; want %d", c.t, len(r), e, c.cells)
		}
		if e == api.OK && !term.Right(r) {
			t.Errorf("Resolve(%v) is not right", c.t)
		}
	}
}

// TestResolveOfMany: a term may grow by every round; it is given up soon.
func TestResolveOfMany(t *testing.T) {
	h := heap.New()
	for i := range 60 {
		v := variable(0, i)
		h.Bind(name(0, i+1), f(v, v, v, v, v, v, v, v))
	}
	if r, e := h.Resolve(variable(0, 60)); e != api.ErrLong || len(r) != 0 {
		t.Error("Resolve:", len(r), e)
	}
	if r, e := h.Resolve(variable(0, 2)); e != api.OK || len(r) != 73 {
		t.Error("Resolve:", len(r), e)
	}
}

func TestDrop(t *testing.T) {
	h := heapOf(t, "?0_1", "a", "?0_2", "?0_1", "?1_0", "?0_2", "?1_1", "b")
	h.Drop()
	h.Drop([]api.Name{}...)
	h.Drop(name(9, 9), name(-1, 0), name(0, -1), name(0, 0))
	if len(h.Bindings()) != 4 {
		t.Error("Drop of none:", h.Bindings())
	}
	h.Drop(name(0, 2), name(1, 1), name(0, 2))
	for _, v := range []api.Name{name(0, 2), name(1, 1)} {
		if x, ok := h.Value(v); ok || len(x) != 0 {
			t.Errorf("Value(%v): %v, %v", v, x, ok)
		}
	}
	if l := h.Chain(variable(1, 0)); !sameAll(l, []api.Term{variable(1, 0), variable(0, 2)}) {
		t.Error("Chain:", l)
	}
	if e := h.Bind(name(0, 2), variable(1, 0)); e != api.ErrOrder {
		t.Error("Bind up behind Drop:", e)
	}
	if e := h.Bind(name(0, 2), number(5)); e != api.OK || !term.Equal(h.Deref(variable(1, 0)), number(5)) {
		t.Error("Bind behind Drop:", e, h.Deref(variable(1, 0)))
	}
	h.Drop(name(0, 1), name(0, 2), name(1, 0))
	if len(h.Bindings()) != 0 {
		t.Error("Drop of all:", h.Bindings())
	}
}

func TestBindings(t *testing.T) {
	rising := []api.Name{name(0, 0), name(0, 2), name(0, 10), name(0, math.MaxInt), name(1, 0), name(1, 1), name(2, 0), name(3, 0), name(3, 5)}
	order := []int{4, 8, 0, 3, 7, 1, 6, 2, 5}
	h := heap.New()
	for _, i := range order {
		h.Bind(rising[i], number(i))
	}
	for range 20 {
		l := h.Bindings()
		if len(l) != len(rising) {
			t.Fatal(l)
		}
		for i, b := range l {
			if b.Var != rising[i] || !term.Equal(b.Term, number(i)) {
				t.Fatal(l)
			}
		}
	}
}

func TestNil(t *testing.T) {
	var h *heap.Heap
	terms := append(notGlobal(), number(1), atom("a"), f(variable(0, 0)), variable(0, 0))
	for _, v := range append(notVariables(), name(0, 0), name(3, 3)) {
		for _, x := range terms {
			if e := h.Bind(v, x); e != api.ErrNil {
				t.Errorf("Bind(%v, %v): %v", v, x, e)
			}
		}
		if x, ok := h.Value(v); ok || len(x) != 0 {
			t.Errorf("Value(%v): %v, %v", v, x, ok)
		}
		h.Drop(v)
	}
	for _, x := range terms {
		if r, e := h.Resolve(x); e != api.ErrNil || len(r) != 0 {
			t.Errorf("Resolve(%v): %v, %v", x, r, e)
		}
		if d := h.Deref(x); !term.Equal(d, x) {
			t.Errorf("Deref(%v): %v", x, d)
		}
		want := []api.Term{x}
		if len(x) == 0 {
			want = nil
		}
		if l := h.Chain(x); !sameAll(l, want) {
			t.Errorf("Chain(%v): %v", x, l)
		}
	}
	h.Drop()
	if l := h.Bindings(); len(l) != 0 {
		t.Error("Bindings:", l)
	}
	if h.Fork() != nil {
		t.Error("Fork of nil")
	}
}
