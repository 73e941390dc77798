package reach_test

import (
	"math"
	"slices"
	"testing"

	"purlin/api"
	"purlin/heap"
	"purlin/reach"
	"purlin/term"
)

// The calls have the forms that chapter 18 lists.
var (
	_ func(h *heap.Heap, roots ...api.Name) []api.Name         = reach.Needed
	_ func(h *heap.Heap, l ...api.Term) []api.Name             = reach.Terms
	_ func(h *heap.Heap, roots ...api.Name) []api.Name         = reach.Garbage
	_ func(h *heap.Heap, from, to api.Name) ([]api.Name, bool) = reach.Path
	_ func(h *heap.Heap, v api.Name) bool                      = reach.Cyclic
	_ func(node int, l ...api.Name) []api.Name                 = reach.Foreign
)

func name(node, number int) api.Name { return api.Name{Node: node, Number: number} }

func names(l ...api.Name) []api.Name { return l }

var w, x, y, z = name(0, 1), name(0, 2), name(1, 0), name(2, 1) // rising

// f is a structure of variables.
func f(l ...api.Name) api.Term {
	t := api.Term{{Kind: api.Struct, Text: "f", N: len(l)}}
	for _, v := range l {
		t = append(t, api.Cell{Kind: api.Var, Var: v})
	}
	return t
}

func bind(t *testing.T, h *heap.Heap, v api.Name, value api.Term) {
	t.Helper()
	if e := h.Bind(v, value); e != api.OK {
		t.Fatal(v, value, e)
	}
}

// binding is a heap in which each of some variables leads to others; to none: its value is a number.
func binding(t *testing.T, leads map[api.Name][]api.Name) *heap.Heap {
	t.Helper()
	h := heap.New()
	for v, l := range leads {
		if len(l) == 0 {
			bind(t, h, v, term.OfInt(3))
		} else {
			bind(t, h, v, f(l...))
		}
	}
	return h
}

// odd are names of which most are no variable's, rising.
func odd() (l []api.Name) {
	numbers := []int{math.MinInt, -2, -1, 0, 3, 4, 1 << 31, math.MaxInt}
	for _, node := range numbers {
		for _, n := range numbers {
			l = append(l, name(node, n))
		}
	}
	return l
}

func needs(t *testing.T, h *heap.Heap, roots, want []api.Name) {
	t.Helper()
	if got := reach.Needed(h, roots...); !slices.Equal(got, want) {
		t.Errorf("Needed(%v): %v, want %v", roots, got, want)
	}
}

func leaves(t *testing.T, h *heap.Heap, roots, want []api.Name) {
	t.Helper()
	if got := reach.Garbage(h, roots...); !slices.Equal(got, want) {
		t.Errorf("Garbage(%v): %v, want %v", roots, got, want)
	}
}

// goes holds a Path against its variables; of none there must be none.
func goes(t *testing.T, h *heap.Heap, from, to api.Name, want ...api.Name) {
	t.Helper()
	got, ok := reach.Path(h, from, to)
	if ok != (len(want) > 0) || !slices.Equal(got, want) {
		t.Errorf("Path(%v, %v): %v, %v, want %v", from, to, got, ok, want)
	}
}

func round(t *testing.T, h *heap.Heap, v api.Name, want bool) {
	t.Helper()
	if got := reach.Cyclic(h, v); got != want {
		t.Errorf("Cyclic(%v): %v", v, got)
	}
}

func TestExamples(t *testing.T) {
	h := binding(t, map[api.Name][]api.Name{x: {y, z}, z: {x}})
	needs(t, h, names(x), names(x, y, z))
	needs(t, h, names(y), names(y))
	round(t, h, x, true)
	goes(t, h, z, y, z, x, y)
	bind(t, h, w, term.OfInt(3))
	leaves(t, h, names(x), names(w))
}

func TestNeeded(t *testing.T) {
	h := binding(t, map[api.Name][]api.Name{x: {z}, z: {z, y}, w: nil})
	needs(t, h, nil, nil)
	needs(t, h, []api.Name{}, nil)
	needs(t, h, names(w), names(w))
	needs(t, h, names(x), names(x, y, z))
	needs(t, h, names(x, x), names(x, y, z))
	needs(t, h, names(z, x, z), names(x, y, z))
	needs(t, h, names(z, w), names(w, y, z))
	needs(t, h, names(y, w, y), names(w, y))
	needs(t, h, names(name(3, 9)), names(name(3, 9)))
	needs(t, heap.New(), names(z, x, z), names(x, z))
}

// TestLinksLead: a value that is a variable leads on, as one in a structure does, however deep.
func TestLinksLead(t *testing.T) {
	h := heap.New()
	bind(t, h, z, term.OfVar(y))
	bind(t, h, y, term.OfVar(x))
	bind(t, h, x, api.Term{{Kind: api.Struct, Text: "g", N: 1}, {Kind: api.Struct, Text: "f", N: 2}, {Kind: api.Int, N: 1}, {Kind: api.Var, Var: w}})
	needs(t, h, names(z), names(w, x, y, z))
	needs(t, h, names(y), names(w, x, y))
	needs(t, h, names(w), names(w))
	goes(t, h, z, w, z, y, x, w)
	goes(t, h, w, z)
	for _, v := range names(w, x, y, z) {
		round(t, h, v, false)
	}
	leaves(t, h, names(y), names(z))
}

// TestNamesThatAreNone: they lead to nothing, but they are what they are.
func TestNamesThatAreNone(t *testing.T) {
	h := binding(t, map[api.Name][]api.Name{x: {y}, z: {x}})
	for _, h := range []*heap.Heap{nil, heap.New(), h} {
		mixed := odd()
		slices.Reverse(mixed)
		needs(t, h, append(mixed, odd()...), odd())
		for _, v := range odd() {
			needs(t, h, names(v), names(v))
			goes(t, h, v, v, v)
			goes(t, h, v, x)
			goes(t, h, x, v)
			round(t, h, v, false)
			leaves(t, h, names(v, x, z), nil)
		}
	}
	leaves(t, h, odd(), names(x, z))
}

func TestNilHeap(t *testing.T) {
	var h *heap.Heap
	needs(t, h, nil, nil)
	needs(t, h, names(z, x, x), names(x, z))
	leaves(t, h, nil, nil)
	leaves(t, h, names(x), nil)
	goes(t, h, x, x, x)
	goes(t, h, x, y)
	round(t, h, x, false)
	if l := reach.Terms(h, f(z, x), f(x, y)); !slices.Equal(l, names(x, y, z)) {
		t.Error(l)
	}
	if l := reach.Terms(h); len(l) != 0 {
		t.Error(l)
	}
}

func TestTerms(t *testing.T) {
	h := binding(t, map[api.Name][]api.Name{x: {y}, z: {x}, w: nil})
	variable := func(v api.Name) api.Cell { return api.Cell{Kind: api.Var, Var: v} }
	for _, c := range []struct {
		l    []api.Term
		want []api.Name
	}{
		{nil, nil},
		{[]api.Term{}, nil},
		{[]api.Term{nil}, nil},
		{[]api.Term{{}, nil, term.OfInt(3), term.OfAtom("a")}, nil},
		{[]api.Term{f(w)}, names(w)},
		{[]api.Term{term.OfVar(z)}, names(x, y, z)},
		{[]api.Term{f(x, x)}, names(x, y)},
		{[]api.Term{f(w), f(z), f(w)}, names(w, x, y, z)},
		{[]api.Term{nil, f(y), nil}, names(y)},
		// Not right: a row of variables, a structure without its arguments, one of too many, odd names, cells with too much.
		{[]api.Term{{variable(z), variable(w)}}, names(w, x, y, z)},
		{[]api.Term{{{Kind: api.Struct, Text: "f", N: 5}, variable(x)}}, names(x, y)},
		{[]api.Term{{{Kind: api.Struct, Text: "", N: -5}, variable(w), {Kind: 77}}}, names(w)},
		{[]api.Term{{variable(name(-1, 0))}, {variable(name(9, -9)), variable(x)}}, names(name(-1, 0), x, y, name(9, -9))},
		{[]api.Term{{{Kind: api.Var, Text: "a", N: 3, Var: x}}}, names(x, y)},
		// Cells of other kinds name no variables.
		{[]api.Term{{{Kind: api.Int, Var: x}, {Kind: api.Atom, Var: x}, {Kind: api.Struct, Var: x}, {Var: x}, {Kind: 5, Var: x}}}, nil},
	} {
		if got := reach.Terms(h, c.l...); !slices.Equal(got, c.want) {
			t.Errorf("Terms(%v): %v, want %v", c.l, got, c.want)
		}
	}
	long := api.Term{}
	for n := range 2 * api.MaxCells {
		long = append(long, variable(name(3, 2*api.MaxCells-n)))
	}
	if got := reach.Terms(h, long); len(got) != 2*api.MaxCells || got[0] != name(3, 1) {
		t.Error(got)
	}
}

func TestGarbage(t *testing.T) {
	h := binding(t, map[api.Name][]api.Name{x: {y}, z: {z, x}, w: nil})
	leaves(t, h, nil, names(w, x, z))
	leaves(t, h, []api.Name{}, names(w, x, z))
	leaves(t, h, names(y), names(w, x, z))
	leaves(t, h, names(name(3, 3)), names(w, x, z))
	leaves(t, h, names(x, x), names(w, z))
	leaves(t, h, names(w), names(x, z))
	leaves(t, h, names(z), names(w))
	leaves(t, h, names(w, z), nil)
	leaves(t, h, names(z, y, x, w), nil)
	leaves(t, heap.New(), names(x), nil)
	leaves(t, heap.New(), nil, nil)
}

func TestPath(t *testing.T) {
	a, b, c, d := name(3, 1), name(3, 2), name(3, 3), name(3, 4)
	// Two of one length: what stands first in a value goes first, greater or not.
	h := binding(t, map[api.Name][]api.Name{x: {b, a}, a: {y}, b: {y}})
	goes(t, h, x, y, x, b, y)
	h = binding(t, map[api.Name][]api.Name{x: {a, b}, a: {y}, b: {y}})
	goes(t, h, x, y, x, a, y)
	// They part late: the ways share their beginning.
	h = binding(t, map[api.Name][]api.Name{w: {x}, x: {c, b, c}, b: {y}, c: {d, y}})
	goes(t, h, w, y, w, x, c, y)
	// A shorter one goes first, though it comes later in the value; also if the end is on the longer one, too.
	h = binding(t, map[api.Name][]api.Name{x: {a, b}, a: {c}, c: {y}, b: {y}})
	goes(t, h, x, y, x, b, y)
	h = binding(t, map[api.Name][]api.Name{x: {a, y}, a: {y}})
	goes(t, h, x, y, x, y)
	// The first place where they part tells, not a later one.
	h = binding(t, map[api.Name][]api.Name{x: {a, b}, a: {d, c}, b: {c}, c: {y}, d: {w}})
	goes(t, h, x, y, x, a, c, y)
	h = binding(t, map[api.Name][]api.Name{x: {b, a}, a: {c}, b: {d, c}, c: {y}})
	goes(t, h, x, y, x, b, c, y)
	// To itself: one variable, whatever its value is.
	h = binding(t, map[api.Name][]api.Name{x: {x, y}, y: {x}, w: nil})
	goes(t, h, x, x, x)
	goes(t, h, y, y, y)
	goes(t, h, z, z, z)
	goes(t, h, w, w, w)
	goes(t, h, y, x, y, x)
	// What is not reached.
	goes(t, h, x, z)
	goes(t, h, z, x)
	goes(t, h, w, x)
	goes(t, h, x, w)
}

func TestCyclic(t *testing.T) {
	h := binding(t, map[api.Name][]api.Name{x: {x}})
	round(t, h, x, true)
	round(t, h, y, false)
	h = binding(t, map[api.Name][]api.Name{w: {x}, x: {y, z}, y: {x}, z: nil})
	round(t, h, x, true)
	round(t, h, y, true)
	round(t, h, w, false) // it leads to a round, and is none of it
	round(t, h, z, false)
	h = binding(t, map[api.Name][]api.Name{w: {x, y}, x: {z}, y: {z}}) // two ways to one are no round
	for _, v := range names(w, x, y, z) {
		round(t, h, v, false)
	}
	h = binding(t, map[api.Name][]api.Name{w: {x}, x: {y}, y: {z}, z: {name(0, 7), w}})
	for _, v := range names(w, x, y, z) {
		round(t, h, v, true)
	}
	h.Drop(y)
	for _, v := range names(w, x, y, z) {
		round(t, h, v, false)
	}
}

func TestForeign(t *testing.T) {
	is := func(node int, l, want []api.Name) {
		t.Helper()
		if got := reach.Foreign(node, l...); !slices.Equal(got, want) {
			t.Errorf("Foreign(%d, %v): %v, want %v", node, l, got, want)
		}
	}
	is(0, nil, nil)
	is(0, []api.Name{}, nil)
	is(0, names(x, w, x), nil)
	is(0, names(z, x, y), names(y, z))
	is(1, names(z, x, y, w), names(w, x, z))
	is(2, names(z, z, y, z, y), names(y))
	is(3, names(z, y, z, x, w, y, x), names(w, x, y, z))
	is(0, names(name(1, 10), name(1, 9), name(2, 0), name(1, 10), name(0, 1)), names(name(1, 9), name(1, 10), name(2, 0)))
	for _, node := range []int{math.MinInt, -2, -1, 0, 1, 3, 4, 1 << 31, math.MaxInt} {
		mixed := append(odd(), odd()...)
		slices.Reverse(mixed)
		is(node, mixed, slices.DeleteFunc(odd(), func(v api.Name) bool { return v.Node == node }))
	}
}

// TestDeep: a long row of values, a wide one, and a long round take no longer than there are variables.
func TestDeep(t *testing.T) {
	const long = 200000
	h := heap.New()
	var l []api.Name
	for n := range long {
		bind(t, h, name(n%4, n), f(name((n+1)%4, n+1), name(0, 0)))
		l = append(l, name(n%4, n))
	}
	end := name(long%4, long)
	if got := reach.Needed(h, l[0]); len(got) != long+1 || !slices.IsSortedFunc(got, func(a, b api.Name) int {
		if term.Less(a, b) {
			return -1
		}
		return 1
	}) {
		t.Error(len(got))
	}
	goes(t, h, l[0], end, append(l, end)...)
	round(t, h, l[long/2], true)
	round(t, h, end, false)
	leaves(t, h, names(l[1]), nil)
	if got := reach.Needed(h, l...); len(got) != long+1 {
		t.Error(len(got))
	}
	if got := reach.Garbage(h); len(got) != long {
		t.Error(len(got))
	}
}
