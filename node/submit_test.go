package node_test

import (
	"fmt"
	"math"
	"testing"

	"purlin/api"
)

func submit(x api.Term) api.Event { return api.Event{Kind: api.Submit, Term: x} }

// TestSubmitErrors: each of them; ErrRange is told ahead of ErrForm, and that ahead of what credit says.
func TestSubmitErrors(t *testing.T) {
	own := func(n int) api.Term { return variable(-1, n) }
	wrong := []api.Term{
		nil, {}, {{}}, atom("A"), atom(""), structure("p"), structure("p", number(api.MaxNumber+1)), nested(api.MaxCells+1, number(1)), append(atom("a"), atom("b")...),
		number(0), number(-5), own(0), variable(0, 0), variable(2, 1),
		structure("p", variable(0, 0)), structure("p", own(0), variable(1, 0)), structure("p", variable(-2, 0)),
		structure("p", own(1)), structure("p", own(1), own(0)), structure("p", own(0), own(2)), structure("p", own(0), own(0), own(2)), structure("p", own(math.MaxInt)), structure("p", own(0), own(2), own(1)),
		{{Kind: api.Struct, Text: "p", N: 1}}, {{Kind: api.Atom, Text: "p", N: 1}},
	}
	n := nodeOf(t, "p.", 0, 2, 100)
	full := nodeOf(t, "p.", 0, 2, 100)
	do(t, full, "recv 1 ship 1.0 p ; 2147483647")
	other := nodeOf(t, "p.", 1, 2, 100)
	for _, x := range wrong {
		refuses(t, n, api.ErrForm, submit(x))
		refuses(t, full, api.ErrForm, submit(x))
		refuses(t, other, api.ErrRange, submit(x))
	}
	refuses(t, other, api.ErrRange, submit(atom("p")))
	refuses(t, full, api.ErrFull, submit(atom("p")), submit(structure("p", own(0))))
	// The credit that goes back at once is too much for what was collected.
	spent := nodeOf(t, "p.", 0, 2, 0)
	do(t, spent, "recv 1 return 0 0 ; 2147483647")
	refuses(t, spent, api.ErrFull, submit(atom("p")), submit(structure("p", own(0))))
	left := nodeOf(t, "p.", 0, 2, 1)
	do(t, left, "recv 1 return 0 0 ; 2147483647")
	if got := do(t, left, "submit p"); got != "" {
		t.Error(got)
	}
	refuses(t, left, api.ErrFull, api.Event{Kind: api.Step})
}

// TestSubmit: new variables stand in the places of the goal's own, and are roots; each goal has its own.
func TestSubmit(t *testing.T) {
	n := nodeOf(t, "p(X, Y) :- q(Z). q(X).", 0, 2, 100)
	script(t, n, "submit p(X, Y)", "", "step", "0.0 p(?0_0, ?0_1) => by 0 & new ?0_2 & 0.1 q(?0_2)",
		"submit f(X, g(Y, X), _, 3)", "", "submit q", "", "submit X = Y @ 1", "")
	is(t, n, "queue 0.1 q(?0_2) & 0.2 f(?0_3, g(?0_4, ?0_3), ?0_5, 3) & 0.3 q & 0.4 ?0_6 = ?0_7 @ 1", "roots ?0_0 & ?0_1 & ?0_3 & ?0_4 & ?0_5 & ?0_6 & ?0_7",
		"credit 4", "collected 0 of 4", "left 99", "out ", "in ")
	var vars []api.Term
	for i := range 8 {
		var l []api.Term
		for j := range 8 {
			l = append(l, variable(-1, 8*i+j))
		}
		vars = append(vars, structure("f", l...))
	}
	if d := n.Do(submit(structure("f", vars...))); d.Errno != api.OK || len(n.Roots()) != 7+64 || n.Roots()[70] != name(0, 71) {
		t.Error(d, n.Roots())
	}
	spent := nodeOf(t, "p.", 0, 2, 0)
	script(t, spent, "submit p", "", "submit p", "")
	is(t, spent, "queue 0.0 p & 0.1 p", "credit 0", "collected 2 of 2", fmt.Sprint("verdict ", api.OutOfFuel))
}
