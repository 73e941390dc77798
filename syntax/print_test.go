package syntax_test

import (
	"math"
	"slices"
	"strings"
	"testing"

	"purlin/api"
	"purlin/syntax"
)

func TestPrint(t *testing.T) {
	for _, x := range []struct {
		term api.Term
		want string
	}{
		{a, "a"},
		{number(0), "0"},
		{number(-5), "-5"},
		{number(api.MaxNumber), "2147483648"},
		{number(-api.MaxNumber), "-2147483648"},
		{local(0), "X0"},
		{local(15), "X15"},
		{local(math.MaxInt), "X9223372036854775807"},
		{variable(0, 0), "?0_0"},
		{variable(3, 12), "?3_12"},
		{structure("f", a), "f(a)"},
		{structure("f", local(0), number(-5), variable(1, 7)), "f(X0, -5, ?1_7)"},
		{structure("f", structure("g", a, b), structure("@", a, one), structure("=", a, b)), "f(g(a, b), a @ 1, a = b)"},
		{structure("-", one, structure("-", two, three)), "1 - (2 - 3)"},
		{structure("-", structure("-", one, two), three), "1 - 2 - 3"},
		{structure("=", a, structure("@", b, one)), "a = (b @ 1)"},
		{structure("@", structure("=", a, b), one), "a = b @ 1"},
		{structure("@", a, structure("+", one, two)), "a @ 1 + 2"},
		{structure("@", structure("@", a, one), two), "(a @ 1) @ 2"},
		{structure("@", a, structure("=", one, two)), "a @ (1 = 2)"},
		{structure("*", structure("+", one, two), three), "(1 + 2) * 3"},
		{structure("*", number(-1), number(-2)), "-1 * -2"},
		{structure("*", one, structure("*", two, three)), "1 * (2 * 3)"},
		{structure("-", number(-1), number(-2)), "-1 - -2"},
		{structure("=\\=", structure("*", one, two), structure("+", a, b)), "1 * 2 =\\= a + b"},
		{structure("f", structure("*", structure("@", a, one), structure("<", one, two))), "f((a @ 1) * (1 < 2))"},
	} {
		if got, e := syntax.Print(x.term); got != x.want || e != api.OK {
			t.Errorf("%v: %q, %v; want %q", x.term, got, e, x.want)
		}
	}
}

// TestBrackets: a part stands in brackets if and only if without them it would be read as another term, or not at all.
func TestBrackets(t *testing.T) {
	for _, outer := range signs {
		for _, inner := range append(signs, "f") {
			part, text := structure(inner, b, c), "b "+inner+" c"
			if inner == "f" {
				text = "f(b, c)"
			}
			for _, x := range []struct {
				term          api.Term
				with, without string
			}{
				{structure(outer, part, a), "(" + text + ") " + outer + " a", text + " " + outer + " a"},
				{structure(outer, a, part), "a " + outer + " (" + text + ")", "a " + outer + " " + text},
			} {
				want := x.with
				if read, _, _, _ := syntax.Term(x.without); same(read, x.term) {
					want = x.without
				}
				if got, e := syntax.Print(x.term); got != want || e != api.OK {
					t.Errorf("%v: %q, %v; want %q", x.term, got, e, want)
				}
			}
		}
	}
}

// notRight are terms that are none, each for a reason of its own.
func notRight() []api.Term {
	return []api.Term{
		nil, {}, {{}}, {{Kind: 9}},
		{{Kind: api.Int, N: api.MaxNumber + 1}}, {{Kind: api.Int, N: -api.MaxNumber - 1}}, {{Kind: api.Int, Text: "a"}},
		{{Kind: api.Atom}}, {{Kind: api.Atom, Text: "A"}}, {{Kind: api.Atom, Text: "a", N: 1}}, {{Kind: api.Atom, Text: "="}},
		{{Kind: api.Var, Var: api.Name{Node: -2}}}, {{Kind: api.Var, Var: api.Name{Node: 4}}}, {{Kind: api.Var, Var: api.Name{Number: -1}}},
		{{Kind: api.Struct, Text: "f"}}, {{Kind: api.Struct, Text: "f", N: 1}}, {{Kind: api.Struct, Text: "f", N: math.MaxInt}},
		{{Kind: api.Struct, Text: "f", N: math.MinInt}}, structure("=", a), structure("f", a, nil), slices.Concat(a, a),
		structure(",", a, a), structure("F", a), structure("f", a, a, a, a, a, a, a, a, a), slices.Repeat(a, 300),
		append(slices.Repeat(structure("f", a)[:1], api.MaxCells), a...),
	}
}

func TestPrintOfWhatIsNotRight(t *testing.T) {
	for _, x := range notRight() {
		if s, e := syntax.Print(x); s != "" || e != api.ErrForm {
			t.Errorf("%v: %q, %v", x, s, e)
		}
		for _, c := range []api.Clause{
			{Head: x},
			{Head: a, Guards: []api.Term{x}},
			{Head: a, Guards: []api.Term{b}, Body: []api.Term{c, x}},
			{Head: a, Guards: []api.Term{b, x}, Body: []api.Term{c}},
			{Head: a, Body: []api.Term{x, c}},
		} {
			if s, e := syntax.PrintClause(c); s != "" || e != api.ErrForm {
				t.Errorf("%v: %q, %v", c, s, e)
			}
			for _, p := range []api.Program{{c}, {{Head: a}, c}, {c, {Head: a}}} {
				if s, e := syntax.PrintProgram(p); s != "" || e != api.ErrForm {
					t.Errorf("%v: %q, %v", p, s, e)
				}
			}
		}
	}
}

func TestPrintClause(t *testing.T) {
	x, y := local(0), local(1)
	for _, k := range []struct {
		clause api.Clause
		want   string
	}{
		{api.Clause{Head: a}, "a."},
		{api.Clause{Head: a, Guards: []api.Term{}, Body: []api.Term{}}, "a."},
		{api.Clause{Head: structure("p", x, y), Locals: 2}, "p(X0, X1)."},
		{api.Clause{Head: a, Body: []api.Term{b}}, "a :- b."},
		{api.Clause{Head: a, Body: []api.Term{b, c, one}}, "a :- b, c, 1."},
		{api.Clause{Head: a, Guards: []api.Term{b}}, "a :- b | true."},
		{api.Clause{Head: a, Guards: []api.Term{b, c}}, "a :- b, c | true."},
		{api.Clause{Head: a, Guards: []api.Term{b}, Body: []api.Term{c}}, "a :- b | c."},
		{api.Clause{Head: a, Guards: []api.Term{a, b}, Body: []api.Term{b, c}}, "a :- a, b | b, c."},
		{api.Clause{Head: atom("true"), Locals: -7}, "true."},
		{api.Clause{Head: structure("p", variable(3, 1), local(99)), Locals: 99}, "p(?3_1, X99)."},
		{api.Clause{
			Head:   structure("p", x, y),
			Guards: []api.Term{structure(">", x, number(0))},
			Body:   []api.Term{structure("@", structure("q", x), one), structure("=", y, a)},
			Locals: 2,
		}, "p(X0, X1) :- X0 > 0 | q(X0) @ 1, X1 = a."},
		{api.Clause{Head: a, Guards: slices.Repeat([]api.Term{b}, 20), Body: slices.Repeat([]api.Term{structure("@", b, one)}, 20)},
			"a :- " + strings.Repeat("b, ", 19) + "b | " + strings.Repeat("b @ 1, ", 19) + "b @ 1."},
	} {
		if got, e := syntax.PrintClause(k.clause); got != k.want || e != api.OK {
			t.Errorf("%v: %q, %v; want %q", k.clause, got, e, k.want)
		}
	}
}

func TestPrintClauseOfHeadsThatMayNotBe(t *testing.T) {
	heads := []api.Term{one, number(-1), local(0), variable(0, 0)}
	for _, s := range signs {
		heads = append(heads, structure(s, a, b))
	}
	for _, h := range heads {
		if s, e := syntax.PrintClause(api.Clause{Head: h, Body: []api.Term{a}, Locals: 1}); s != "" || e != api.ErrForm {
			t.Errorf("%v: %q, %v", h, s, e)
		}
	}
}

func TestPrintProgram(t *testing.T) {
	for _, k := range []struct {
		program api.Program
		want    string
	}{
		{nil, ""},
		{api.Program{}, ""},
		{api.Program{{Head: a}}, "a.\n"},
		{api.Program{{Head: a, Body: []api.Term{b}}, {Head: c}}, "a :- b.\nc.\n"},
		{slices.Repeat(api.Program{{Head: a}}, 70), strings.Repeat("a.\n", 70)},
	} {
		if got, e := syntax.PrintProgram(k.program); got != k.want || e != api.OK {
			t.Errorf("%v: %q, %v", k.program, got, e)
		}
	}
}
