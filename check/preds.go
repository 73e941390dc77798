package check

import (
	"purlin/api"
	"purlin/term"
)

// Pred is a predicate.
type Pred struct {
	Name  string
	Arity int
}

// Preds are the predicates that have clauses.
func Preds(l ...api.Program) []Pred {
	var r row
	for _, p := range l {
		for _, c := range p {
			if hasName(c.Head) {
				r.add(predOf(c.Head))
			}
		}
	}
	return r.list
}

// Clauses are the numbers of a predicate's.
func Clauses(p api.Program, name string, arity int) []int {
	return clausesOf(p)[Pred{name, arity}]
}

// clausesOf are the numbers of each predicate's clauses.
func clausesOf(p api.Program) map[Pred][]int {
	numbers := map[Pred][]int{}
	for n, c := range p {
		if hasName(c.Head) {
			d := predOf(c.Head)
			numbers[d] = append(numbers[d], n)
		}
	}
	return numbers
}

// predOf is that of a term that has a name.
func predOf(t api.Term) Pred {
	if t[0].Kind == api.Atom {
		return Pred{Name: t[0].Text}
	}
	return Pred{t[0].Text, t[0].N}
}

// Calls are the predicates that a clause calls.
func Calls(p api.Program, clause int) []Pred {
	if clause < 0 || clause >= len(p) {
		return nil
	}
	return called(p[clause].Body...)
}

// Reached are the predicates that goals lead to.
func Reached(p api.Program, goals ...api.Term) []Pred {
	var r row
	r.add(called(goals...)...)
	numbers := clausesOf(p)
	// The row grows as it is gone through.
	for i := 0; i < len(r.list); i++ {
		for _, n := range numbers[r.list[i]] {
			r.add(called(p[n].Body...)...)
		}
	}
	return r.list
}

// called are the predicates that goals call, each once, as they come.
func called(goals ...api.Term) []Pred {
	var r row
	for _, t := range goals {
		if !term.Right(t) {
			continue
		}
		if t[0].Text == "@" {
			t, _ = sides(t)
		}
		if hasName(t) && !isTrue(t) {
			r.add(predOf(t))
		}
	}
	return r.list
}

// row is predicates, each once, as they first came.
type row struct {
	list []Pred
	met  map[Pred]struct{}
}

func (r *row) add(l ...Pred) {
	if r.met == nil {
		r.met = map[Pred]struct{}{}
	}
	for _, d := range l {
		if _, again := r.met[d]; !again {
			r.met[d] = struct{}{}
			r.list = append(r.list, d)
		}
	}
}
