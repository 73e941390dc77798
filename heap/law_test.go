package heap_test

import (
	"fmt"
	"math/rand"
	"slices"
	"testing"

	"purlin/api"
	"purlin/heap"
	"purlin/term"
)

// plain is a map by the chapter's words: variables with values, as they were bound.
type plain []api.Binding

func (p plain) value(v api.Name) (api.Term, bool) {
	for _, b := range p {
		if b.Var == v {
			return b.Term, true
		}
	}
	return nil, false
}

func (p plain) bind(v api.Name, t api.Term) (plain, api.Errno) {
	_, bound := p.value(v)
	switch {
	case v.Node < 0 || v.Node >= api.MaxNodes || v.Number < 0 || !term.Global(t):
		return p, api.ErrForm
	case bound:
		return p, api.ErrBound
	case t[0].Kind == api.Var && !term.Less(t[0].Var, v):
		return p, api.ErrOrder
	}
	return append(slices.Clone(p), api.Binding{Var: v, Term: t}), api.OK
}

func (p plain) drop(l ...api.Name) plain {
	return slices.DeleteFunc(slices.Clone(p), func(b api.Binding) bool { return slices.Contains(l, b.Var) })
}

func (p plain) chain(t api.Term) []api.Term {
	l := []api.Term{t}
	for len(t) == 1 && t[0].Kind == api.Var {
		value, bound := p.value(t[0].Var)
		if !bound {
			break
		}
		t = value
		l = append(l, t)
	}
	return l
}

// resolve puts values in the places of all variables at once, again and again, until there are none, or too many cells.
func (p plain) resolve(t api.Term) (api.Term, api.Errno) {
	for {
		var next api.Term
		for _, c := range t {
			value, bound := p.value(c.Var)
			if c.Kind == api.Var && bound {
				next = append(next, value...)
			} else {
				next = append(next, c)
			}
		}
		if term.Equal(next, t) {
			return t, api.OK
		}
		if len(next) > api.MaxCells {
			return nil, api.ErrLong
		}
		t = next
	}
}

func (p plain) bindings() []api.Binding {
	return slices.SortedFunc(slices.Values(p), func(a, b api.Binding) int {
		if term.Less(a.Var, b.Var) {
			return -1
		}
		return 1
	})
}

func someName(r *rand.Rand) api.Name { return name(r.Intn(3), r.Intn(4)) }

// someTerm is a right one, most often small.
func someTerm(r *rand.Rand, deep int) api.Term {
	switch n := r.Intn(8); {
	case n == 0:
		return number(r.Intn(5) - 2)
	case n == 1:
		return atom([]string{"a", "b"}[r.Intn(2)])
	case n == 2 && r.Intn(4) == 0:
		return variable(-1, r.Intn(2))
	case n < 6 || deep == 0:
		v := someName(r)
		return variable(v.Node, v.Number)
	}
	var args []api.Term
	for range 1 + r.Intn(3) {
		args = append(args, someTerm(r, deep-1))
	}
	return f(args...)
}

// agree holds a heap against a map by the chapter's words, and against P5.4 and P5.6.
func agree(t *testing.T, h *heap.Heap, p plain, x api.Term) {
	t.Helper()
	if got, want := h.Bindings(), p.bindings(); fmt.Sprint(got) != fmt.Sprint(want) {
		t.Fatalf("Bindings: %v, want %v", got, want)
	}
	for node := -1; node < api.MaxNodes; node++ {
		for n := range 5 {
			value, bound := p.value(name(node, n))
			if got, ok := h.Value(name(node, n)); ok != bound || !term.Equal(got, value) {
				t.Fatalf("Value(%d, %d): %v, %v; want %v, %v", node, n, got, ok, value, bound)
			}
		}
	}
	chain := h.Chain(x)
	if want := p.chain(x); !sameAll(chain, want) {
		t.Fatalf("Chain(%v): %v, want %v", x, chain, want)
	}
	if d := h.Deref(x); !term.Equal(d, chain[len(chain)-1]) {
		t.Fatalf("Deref(%v): %v, the chain is %v", x, d, chain)
	}
	if len(chain) > len(p)+1 {
		t.Fatalf("Chain(%v) of %d bindings: %v", x, len(p), chain)
	}
	for i := 1; i < len(chain); i++ {
		if chain[i][0].Kind == api.Var && !term.Less(chain[i][0].Var, chain[i-1][0].Var) {
			t.Fatalf("Chain(%v) does not fall: %v", x, chain)
		}
	}
	resolved(t, h, p, x)
}

func resolved(t *testing.T, h *heap.Heap, p plain, x api.Term) {
	t.Helper()
	got, e := h.Resolve(x)
	want, wantError := p.resolve(x)
	if e != wantError || !term.Equal(got, want) {
		t.Fatalf("Resolve(%v): %v, %v; want %v, %v", x, got, e, want, wantError)
	}
	if e != api.OK {
		return
	}
	if again, e := h.Resolve(got); e != api.OK || !term.Equal(again, got) {
		t.Fatalf("Resolve of what it tells, %v: %v, %v", got, again, e)
	}
	for _, v := range term.Vars(got) {
		if _, bound := h.Value(v); bound {
			t.Fatalf("Resolve(%v): %v has a value", x, v)
		}
	}
	if !slices.ContainsFunc(term.Vars(x), func(v api.Name) bool { _, bound := p.value(v); return bound }) && !term.Equal(got, x) {
		t.Fatalf("Resolve(%v) without values: %v", x, got)
	}
}

// TestRunsByTheirWords is P5.1 to P5.6, over runs of all calls; forks are held for a while, and looked at again (P4).
func TestRunsByTheirWords(t *testing.T) {
	met := map[api.Errno]int{}
	long := 0
	for seed := range int64(150) {
		r := rand.New(rand.NewSource(seed))
		h, p := heap.New(), plain{}
		var forks []*heap.Heap
		var plains []plain
		for range 60 {
			switch n := r.Intn(20); {
			case n < 15:
				v, x := someName(r), someTerm(r, 3)
				if r.Intn(10) == 0 {
					v.Node = -1
				}
				e := h.Bind(v, x)
				after, want := p.bind(v, x)
				if e != want {
					t.Fatalf("Bind(%v, %v): %v, want %v", v, x, e, want)
				}
				met[e]++
				p = after
			case n < 17:
				l := []api.Name{someName(r), someName(r)}
				h.Drop(l...)
				p = p.drop(l...)
			case n < 19:
				forks, plains = append(forks, h.Fork()), append(plains, p)
			case len(forks) > 0:
				// The fork goes on, and the one that it was taken from is looked at later.
				i := r.Intn(len(forks))
				h, forks[i] = forks[i], h
				p, plains[i] = plains[i], p
			}
			x := someTerm(r, 4)
			agree(t, h, p, x)
			if _, e := h.Resolve(x); e == api.ErrLong {
				long++
			}
		}
		for i, k := range forks {
			agree(t, k, plains[i], someTerm(r, 4))
		}
	}
	for _, e := range []api.Errno{api.OK, api.ErrForm, api.ErrBound, api.ErrOrder} {
		if met[e] < 100 {
			t.Errorf("Bind answered %v %d times", e, met[e])
		}
	}
	if long < 100 {
		t.Errorf("Resolve answered ErrLong %d times", long)
	}
}

// TestWhatIsBoundStays is P5.5 and E2: no Bind changes a value that is there.
func TestWhatIsBoundStays(t *testing.T) {
	for seed := range int64(50) {
		r := rand.New(rand.NewSource(seed))
		h := heap.New()
		for range 80 {
			before := h.Bindings()
			v := someName(r)
			e := h.Bind(v, someTerm(r, 2))
			for _, b := range before {
				if x, ok := h.Value(b.Var); !ok || !term.Equal(x, b.Term) {
					t.Fatalf("Value(%v) was %v, is %v, %v", b.Var, b.Term, x, ok)
				}
			}
			if after := len(h.Bindings()); e == api.OK && after != len(before)+1 || e != api.OK && after != len(before) {
				t.Fatalf("Bind answers %v: %d bindings, were %d", e, after, len(before))
			}
		}
	}
}

func TestForkGoesItsOwnWay(t *testing.T) {
	h := heapOf(t, "?0_0", "a", "?0_1", "f(?0_2)")
	first := fmt.Sprint(h.Bindings())
	k := h.Fork()
	if fmt.Sprint(k.Bindings()) != first {
		t.Fatal("Fork:", k.Bindings())
	}
	k.Bind(name(0, 2), number(1))
	k.Drop(name(0, 0))
	if fmt.Sprint(h.Bindings()) != first {
		t.Error("the fork changes the other one:", h.Bindings())
	}
	second := fmt.Sprint(k.Bindings())
	h.Bind(name(3, 3), number(2))
	h.Drop(name(0, 1), name(0, 0))
	h.Bind(name(0, 0), number(3))
	if fmt.Sprint(k.Bindings()) != second {
		t.Error("the other one changes the fork:", k.Bindings())
	}
	if e := heap.New().Fork().Bind(name(0, 0), number(1)); e != api.OK {
		t.Error("Bind in the fork of an empty one:", e)
	}
}

// roomy is a term with room behind its end that is marked.
func roomy(x api.Term) api.Term {
	r := append(make(api.Term, 0, len(x)+3), x...)
	for i := range r[len(x):cap(r)] {
		r[len(x):cap(r)][i] = api.Cell{Kind: 77, Text: "mark", N: i}
	}
	return r
}

func wipe(l ...api.Term) {
	for _, x := range l {
		for i := range x[:cap(x)] {
			x[:cap(x)][i] = api.Cell{Kind: 99}
		}
	}
}

// TestNothingIsShared is P3: what is handed in stays, and may be changed by the caller; so may what is answered.
func TestNothingIsShared(t *testing.T) {
	h := heap.New()
	for i, x := range []api.Term{atom("a"), f(variable(0, 0), variable(2, 2)), variable(0, 1), f(number(7), variable(1, 0))} {
		in := roomy(x)
		before := fmt.Sprint(in[:cap(in)])
		if e := h.Bind(name(i, i), in); e != api.OK {
			t.Fatal(e)
		}
		h.Bind(name(i, i), in)
		h.Chain(in)
		h.Deref(in)
		h.Resolve(in)
		if fmt.Sprint(in[:cap(in)]) != before {
			t.Error("what was handed in is changed:", in[:cap(in)])
		}
		wipe(in)
	}
	k := h.Fork()
	first := fmt.Sprint(h.Bindings())
	if first != fmt.Sprint(heapOf(t, "?0_0", "a", "?1_1", "f(?0_0, ?2_2)", "?2_2", "?0_1", "?3_3", "f(7, ?1_0)").Bindings()) {
		t.Error("what is kept lies in what was handed in:", first)
	}
	for _, x := range []api.Term{atom("a"), f(variable(0, 0), variable(3, 3)), variable(2, 2), variable(0, 0), variable(3, 0)} {
		in := roomy(x)
		before := fmt.Sprint(in[:cap(in)])
		answers := h.Chain(in)
		d := h.Deref(in)
		r, _ := h.Resolve(in)
		value, _ := h.Value(in[0].Var)
		answers = append(answers, d, r, value)
		for _, b := range h.Bindings() {
			answers = append(answers, b.Term)
		}
		for i, a := range answers {
			others := fmt.Sprint(answers[:i], answers[i+1:])
			wipe(a)
			if fmt.Sprint(answers[:i], answers[i+1:]) != others {
				t.Error("an answer lies in another one")
			}
		}
		if fmt.Sprint(in[:cap(in)]) != before {
			t.Error("an answer lies in what was handed in:", in[:cap(in)])
		}
	}
	if fmt.Sprint(h.Bindings()) != first || fmt.Sprint(k.Bindings()) != first {
		t.Error("an answer lies in what is kept:", h.Bindings(), k.Bindings())
	}
}

// TestAppendToAnswers: room behind the end of an answer is the caller's too.
func TestAppendToAnswers(t *testing.T) {
	h := heapOf(t, "?0_0", "f(1, 2, 3)", "?1_0", "?0_0")
	first := fmt.Sprint(h.Bindings())
	for range 3 {
		a, _ := h.Value(name(0, 0))
		b := h.Deref(variable(1, 0))
		c, _ := h.Resolve(variable(1, 0))
		_, _, _ = append(a, number(1)...), append(b, number(2)...), append(c, number(3)...)
		for _, x := range h.Chain(variable(1, 0)) {
			_ = append(x, number(4)...)
		}
		if s := fmt.Sprint(h.Bindings()); s != first {
			t.Fatal(s)
		}
	}
}

// TestDropLeavesItsList is P3 of the names that are handed in.
func TestDropLeavesItsList(t *testing.T) {
	l := append(make([]api.Name, 0, 4), name(0, 1), name(0, 0), name(0, 1))
	l[:4][3] = name(9, 9)
	h := heapOf(t, "?0_0", "a", "?0_1", "b")
	h.Drop(l...)
	if !slices.Equal(l[:4], []api.Name{name(0, 1), name(0, 0), name(0, 1), name(9, 9)}) || len(h.Bindings()) != 0 {
		t.Error(l[:4], h.Bindings())
	}
}
