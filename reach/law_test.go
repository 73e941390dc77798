package reach_test

import (
	"fmt"
	"math/rand"
	"slices"
	"testing"

	"purlin/api"
	"purlin/heap"
	"purlin/reach"
	"purlin/term"
)

// rising are names, each once, in the order of term.Less, brought there by exchanges.
func rising(l []api.Name) []api.Name {
	var r []api.Name
	for _, v := range l {
		if slices.Contains(r, v) {
			continue
		}
		r = append(r, v)
		for i := len(r) - 1; i > 0 && term.Less(r[i], r[i-1]); i-- {
			r[i], r[i-1] = r[i-1], r[i]
		}
	}
	return r
}

// few are the variables of small heaps.
func few() (l []api.Name) {
	for i := range 7 {
		l = append(l, name(i%3, 9-i))
	}
	return l
}

func someName(r *rand.Rand) api.Name { return few()[r.Intn(7)] }

func someNames(r *rand.Rand, most int) (l []api.Name) {
	for range r.Intn(most + 1) {
		l = append(l, someName(r))
	}
	return l
}

// someValue is a global term: a number, a variable, or a structure, some of whose parts are structures themselves.
func someValue(r *rand.Rand, deep int) api.Term {
	n := r.Intn(6)
	switch {
	case n == 0:
		return term.OfInt(n)
	case n < 3 || deep == 0:
		return term.OfVar(someName(r))
	}
	var args []api.Term
	for range 1 + r.Intn(3) {
		args = append(args, someValue(r, deep-1))
	}
	t, _ := term.Make("f", args...)
	return t
}

// someHeap has values of some of the few variables. (Links that do not descend are not taken.)
func someHeap(r *rand.Rand) *heap.Heap {
	h := heap.New()
	for range r.Intn(12) {
		h.Bind(someName(r), someValue(r, 2))
	}
	return h
}

func valueOf(h *heap.Heap, v api.Name) []api.Name {
	value, _ := h.Value(v)
	return term.Vars(value)
}

// reached is what is reached, by the chapter's words: all that come are added, until none comes.
func reached(h *heap.Heap, roots []api.Name) []api.Name {
	l := rising(roots)
	for {
		more := slices.Clone(l)
		for _, v := range l {
			more = append(more, valueOf(h, v)...)
		}
		if more = rising(more); len(more) == len(l) {
			return more
		}
		l = more
	}
}

// row is the first row of so many variables from one to another one, by the order of values.
func row(h *heap.Heap, from, to api.Name, long int) []api.Name {
	if long == 1 {
		if from == to {
			return names(to)
		}
		return nil
	}
	for _, v := range valueOf(h, from) {
		if rest := row(h, v, to, long-1); rest != nil {
			return append(names(from), rest...)
		}
	}
	return nil
}

// path is the shortest row; none is longer than there are variables.
func path(h *heap.Heap, from, to api.Name) []api.Name {
	for long := 1; long <= len(few()); long++ {
		if l := row(h, from, to, long); l != nil {
			return l
		}
	}
	return nil
}

// TestNeededByItsWords is P18.1 and P18.3.
func TestNeededByItsWords(t *testing.T) {
	for seed := range 3000 {
		r := rand.New(rand.NewSource(int64(seed)))
		h, roots := someHeap(r), someNames(r, 4)
		needed := reach.Needed(h, roots...)
		if want := reached(h, roots); !slices.Equal(needed, want) {
			t.Fatalf("Needed(%v) by %v: %v, want %v", roots, h.Bindings(), needed, want)
		}
		needs(t, h, needed, needed)
		var garbage []api.Name
		for _, b := range h.Bindings() {
			if !slices.Contains(needed, b.Var) {
				garbage = append(garbage, b.Var)
			}
		}
		leaves(t, h, roots, garbage)
		terms := []api.Term{someValue(r, 2), f(roots...), nil}
		if got, want := reach.Terms(h, terms...), reached(h, rising(term.Vars(terms...))); !slices.Equal(got, want) {
			t.Fatalf("Terms(%v): %v, want %v", terms, got, want)
		}
		has(t, reach.Needed(h, append(someNames(r, 2), roots...)...), needed)
		h.Bind(someName(r), someValue(r, 2))
		more := reach.Needed(h, roots...)
		has(t, more, needed)
		h.Drop(someName(r))
		has(t, more, reach.Needed(h, roots...))
	}
}

// has tells that all of some are among others.
func has(t *testing.T, l, part []api.Name) {
	t.Helper()
	for _, v := range part {
		if !slices.Contains(l, v) {
			t.Fatalf("%v is not in %v", v, l)
		}
	}
}

// TestPathsByTheirWords is P18.2 and P18.4.
func TestPathsByTheirWords(t *testing.T) {
	count := map[int]int{}
	for seed := range 1000 {
		r := rand.New(rand.NewSource(int64(10000 + seed)))
		h := someHeap(r)
		for _, from := range few() {
			needed := reach.Needed(h, from)
			cyclic := false
			for _, to := range few() {
				want := path(h, from, to)
				goes(t, h, from, to, want...)
				count[len(want)]++
				if slices.Contains(needed, to) != (want != nil) {
					t.Fatalf("Needed(%v): %v, and the path to %v is %v", from, needed, to, want)
				}
				cyclic = cyclic || slices.Contains(valueOf(h, from), to) && path(h, to, from) != nil
			}
			round(t, h, from, cyclic)
		}
		roots := someNames(r, 3)
		needed := reach.Needed(h, roots...)
		for _, to := range few() {
			some := slices.ContainsFunc(roots, func(from api.Name) bool { _, ok := reach.Path(h, from, to); return ok })
			if some != slices.Contains(needed, to) {
				t.Fatalf("Needed(%v): %v, and a path to %v: %v", roots, needed, to, some)
			}
		}
	}
	for long := range 6 {
		if count[long] < 30 {
			t.Errorf("paths of %d came up %d times alone", long, count[long])
		}
	}
}

// TestWhatIsDroppedIsNotNeeded is P18.5, and E3 and E9 of what is dropped: whatever is needed keeps its value, and roots mean the same.
func TestWhatIsDroppedIsNotNeeded(t *testing.T) {
	count := 0
	for seed := range 3000 {
		r := rand.New(rand.NewSource(int64(20000 + seed)))
		h, roots := someHeap(r), someNames(r, 3)
		before := h.Fork()
		needed, garbage := reach.Needed(h, roots...), reach.Garbage(h, roots...)
		h.Drop(garbage...)
		count += len(garbage)
		needs(t, h, roots, needed)
		leaves(t, h, roots, nil)
		for _, v := range needed {
			is, bound := h.Value(v)
			was, wasBound := before.Value(v)
			if bound != wasBound || !term.Equal(is, was) {
				t.Fatalf("%v: %v, was %v", v, is, was)
			}
			now, e := h.Resolve(term.OfVar(v))
			then, before := before.Resolve(term.OfVar(v))
			if e != before || !term.Equal(now, then) {
				t.Fatalf("%v: %v, was %v", v, now, then)
			}
		}
		for _, v := range garbage {
			if _, bound := h.Value(v); bound || slices.Contains(needed, v) {
				t.Fatal(v)
			}
		}
		if len(h.Bindings())+len(garbage) != len(before.Bindings()) {
			t.Fatalf("%v, was %v", h.Bindings(), before.Bindings())
		}
	}
	if count < 3000 {
		t.Error(count)
	}
}

// TestForeignByItsWords is P18.2 of Foreign.
func TestForeignByItsWords(t *testing.T) {
	for seed := range 1000 {
		r := rand.New(rand.NewSource(int64(30000 + seed)))
		l, node := someNames(r, 9), r.Intn(5)-1
		want := rising(slices.DeleteFunc(slices.Clone(l), func(v api.Name) bool { return v.Node == node }))
		if got := reach.Foreign(node, l...); !slices.Equal(got, want) {
			t.Fatalf("Foreign(%d, %v): %v, want %v", node, l, got, want)
		}
	}
}

// marked is a list with room behind its end, and marks there.
func marked(l []api.Name) []api.Name {
	l = append(make([]api.Name, 0, len(l)+5), l...)
	for i := len(l); i < cap(l); i++ {
		l[:cap(l)][i] = name(7, 7)
	}
	return l
}

// wipe writes over a list, and over what lies behind its end.
func wipe(l []api.Name) {
	for i := range l[:cap(l)] {
		l[:cap(l)][i] = name(-9, -9)
	}
}

// TestNothingIsShared is P3 and P6: what is handed in stays, spare room too, and is not kept; what is answered is the caller's; the heap is what it was.
func TestNothingIsShared(t *testing.T) {
	for seed := range 500 {
		r := rand.New(rand.NewSource(int64(40000 + seed)))
		h, l := someHeap(r), marked(someNames(r, 6))
		terms := append(make([]api.Term, 0, 5), someValue(r, 2), someValue(r, 2))
		terms[:3][2] = f(name(0, 0))
		from, to := someName(r), someName(r)
		before := fmt.Sprint(h.Bindings(), l[:cap(l)], terms[:cap(terms)])
		ask := func() [][]api.Name {
			p, _ := reach.Path(h, from, to)
			reach.Cyclic(h, from)
			return [][]api.Name{reach.Needed(h, l...), reach.Terms(h, terms...), reach.Garbage(h, l...), p, reach.Foreign(1, l...)}
		}
		first, second := ask(), ask()
		text := fmt.Sprint(first)
		if fmt.Sprint(second) != text {
			t.Fatalf("%v, then %v", first, second)
		}
		for i, a := range first {
			wipe(a)
			if fmt.Sprint(second[i:]) != fmt.Sprint(ask()[i:]) {
				t.Fatal("two answers lie in one list")
			}
		}
		if after := fmt.Sprint(h.Bindings(), l[:cap(l)], terms[:cap(terms)]); after != before {
			t.Fatalf("%s, was %s", after, before)
		}
		wipe(l)
		for _, v := range terms {
			clear(v)
		}
		if fmt.Sprint(second) != text {
			t.Fatal("an answer lies in what was handed in")
		}
	}
}
