package fair_test

import (
	"math/rand"
	"strconv"
	"strings"
	"testing"

	"purlin/api"
	"purlin/cluster"
	"purlin/fair"
)

func one(r *rand.Rand, l ...string) string { return l[r.Intn(len(l))] }

// someTerm is one by chance, with variables of some.
func someTerm(r *rand.Rand, depth int, vars ...string) string {
	switch n := r.Intn(10); {
	case n < 5:
		return one(r, vars...)
	case n < 7 || depth == 0:
		return one(r, "0", "1", "2", "a", "b")
	case n < 9:
		return "f(" + someTerm(r, depth-1, vars...) + ")"
	}
	return "g(" + someTerm(r, depth-1, vars...) + ", " + someTerm(r, depth-1, vars...) + ")"
}

func someGoal(r *rand.Rand, vars ...string) string {
	row := func(n, depth int) string {
		var l []string
		for range n {
			l = append(l, someTerm(r, depth, vars...))
		}
		return "(" + strings.Join(l, ", ") + ")"
	}
	goal := ""
	switch r.Intn(8) {
	case 0, 1, 2:
		goal = someTerm(r, 2, vars...) + " = " + someTerm(r, 2, vars...)
	case 3:
		return one(r, vars...) + " := " + one(r, "1", one(r, vars...)) + " + 1"
	case 4, 5:
		goal = "p" + row(2, 1)
	case 6:
		goal = "q" + row(1, 2)
	default:
		goal = "z" + row(3, 1)
	}
	if r.Intn(2) == 0 {
		return goal
	}
	return goal + " @ " + strconv.Itoa(r.Intn(3))
}

func someProgram(r *rand.Rand) string {
	text := "p(a, b). q(b). z(a, b, c)."
	for _, head := range []string{"p(X, Y)", "p(f(X), Y)", "p(X, a)", "p(g(X, Y), Z)", "q(X)", "q(f(X))", "q(X)", "z(X, Y, Z)", "z(X, f(Y), Z)", "z(0, X, Y)"} {
		if r.Intn(3) == 0 {
			continue
		}
		body := []string{"true"}
		for range r.Intn(4) {
			body = append(body, someGoal(r, "X", "Y", "Z", "U", "V"))
		}
		text += " " + head + " :- " + one(r, "", "", "", "X > 0 | ", "integer(X) | ", "X =< 1 | ") + strings.Join(body, ", ") + "."
	}
	return text
}

// TestProgramsByChance: of programs, goals and scripts by chance all verdicts are true (P23.3), and where nothing is left to be done there is one without a step (P23.4).
func TestProgramsByChance(t *testing.T) {
	truths, quiet := map[api.Verdict]int{}, 0
	for seed := range 800 {
		r := rand.New(rand.NewSource(int64(seed)))
		p := programOf(t, someProgram(r))
		nodes := 3 + r.Intn(2)
		c, e := cluster.New(p, nodes, 1+r.Intn(40))
		if e != api.OK {
			t.Fatal(seed, e)
		}
		for range 1 + r.Intn(3) {
			c.Do(api.Op{Kind: api.DoSubmit, Text: someGoal(r, "A", "B", "C")})
		}
		for range r.Intn(200) {
			o := someOp(r, nodes, len(c.Pending()))
			if o.Kind == api.DoSubmit {
				o.Text = someGoal(r, "A", "B", "C")
			}
			c.Do(o)
		}
		agrees(t, c)
		for range 2 { // ahead of the fair tail, and behind it
			verdictHolds(t, c, p)
			truths[fair.Truth(c)]++
			if fair.Quiet(c) {
				quiet++
				quietEnds(t, c)
			}
			fair.Go(c, 100)
		}
	}
	if len(truths) < 5 || quiet < 400 {
		t.Error("too little has happened:", truths, quiet)
	}
}
