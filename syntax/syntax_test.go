package syntax_test

import (
	"reflect"
	"slices"
	"strconv"
	"strings"
	"testing"

	"purlin/api"
	"purlin/syntax"
)

// The calls have the forms that chapter 3 lists.
var (
	_ func(string) (api.Program, api.Errno, int)   = syntax.Program
	_ func(string) (api.Term, int, api.Errno, int) = syntax.Term
	_ func(api.Term) (string, api.Errno)           = syntax.Print
	_ func(api.Clause) (string, api.Errno)         = syntax.PrintClause
	_ func(api.Program) (string, api.Errno)        = syntax.PrintProgram
)

var signs = []string{"=", ":=", "@", "+", "-", "*", "<", "=<", ">", ">=", "=:=", "=\\="}

func number(n int) api.Term  { return api.Term{{Kind: api.Int, N: n}} }
func atom(s string) api.Term { return api.Term{{Kind: api.Atom, Text: s}} }
func variable(node, number int) api.Term {
	return api.Term{{Kind: api.Var, Var: api.Name{Node: node, Number: number}}}
}
func local(number int) api.Term { return variable(-1, number) }
func same(a, b api.Term) bool   { return slices.Equal(a, b) }

func structure(s string, args ...api.Term) api.Term {
	return slices.Concat(append([]api.Term{{{Kind: api.Struct, Text: s, N: len(args)}}}, args...)...)
}

// deep is a term of so many cells, as a text.
func deep(cells int) string {
	return strings.Repeat("f(", cells-1) + "a" + strings.Repeat(")", cells-1)
}

// rowOf is n times a text, with commas between.
func rowOf(n int, s string) string { return strings.Join(slices.Repeat([]string{s}, n), ",") }

// variables are n unlike ones, as a text.
func variables(n int) string {
	var l []string
	for i := range n {
		l = append(l, "V"+strconv.Itoa(i))
	}
	return strings.Join(l, "+")
}

var one, two, three = number(1), number(2), number(3)
var a, b, c = atom("a"), atom("b"), atom("c")

func TestTerm(t *testing.T) {
	for _, x := range []struct {
		text   string
		want   api.Term
		locals int
	}{
		{"a", a, 0},
		{"7", number(7), 0},
		{"0", number(0), 0},
		{"-7", number(-7), 0},
		{"- 7", number(-7), 0},
		{"-0", number(0), 0},
		{"2147483648", number(api.MaxNumber), 0},
		{"-2147483648", number(-api.MaxNumber), 0},
		{"X", local(0), 1},
		{"_", local(0), 1},
		{"?1_20", variable(1, 20), 0},
		{"?0_0", variable(0, 0), 0},
		{"?3_1099511627776", variable(3, 1<<40), 0},
		{"true", atom("true"), 0},
		{"f(X, Y, X)", structure("f", local(0), local(1), local(0)), 2},
		{"f(Y, X, Y)", structure("f", local(0), local(1), local(0)), 2},
		{"f(_, _, X, _)", structure("f", local(0), local(1), local(2), local(3)), 4},
		{"f(_a, _, _a, __, __)", structure("f", local(0), local(1), local(0), local(2), local(2)), 3},
		{"f(X, ?0_0, x, Xx)", structure("f", local(0), variable(0, 0), atom("x"), local(1)), 2},
		{"f(a,b,c,1,2,3,a,b)", structure("f", a, b, c, one, two, three, a, b), 0},
		{"1 + 2", structure("+", one, two), 0},
		{"1-2-3", structure("-", structure("-", one, two), three), 0},
		{"1 - (2 - 3)", structure("-", one, structure("-", two, three)), 0},
		{"1 + 2 - 3 + 1", structure("+", structure("-", structure("+", one, two), three), one), 0},
		{"1 * 2 * 3", structure("*", structure("*", one, two), three), 0},
		{"1 * (2 * 3)", structure("*", one, structure("*", two, three)), 0},
		{"1 + 2 * 3", structure("+", one, structure("*", two, three)), 0},
		{"1 * 2 + 3", structure("+", structure("*", one, two), three), 0},
		{"(1 + 2) * 3", structure("*", structure("+", one, two), three), 0},
		{"1 - -2", structure("-", one, number(-2)), 0},
		{"-1 - 2", structure("-", number(-1), two), 0},
		{"1 -2", structure("-", one, two), 0},
		{"-1 * -2", structure("*", number(-1), number(-2)), 0},
		{"a = b @ 1", structure("@", structure("=", a, b), one), 0},
		{"a = (b @ 1)", structure("=", a, structure("@", b, one)), 0},
		{"a @ 1 + 2", structure("@", a, structure("+", one, two)), 0},
		{"(a @ 1) @ 2", structure("@", structure("@", a, one), two), 0},
		{"(a = b) = c", structure("=", structure("=", a, b), c), 0},
		{"1 + 2 < 3 * 1", structure("<", structure("+", one, two), structure("*", three, one)), 0},
		{"X := Y + 1", structure(":=", local(0), structure("+", local(1), one)), 2},
		{"f(a @ 1, b = c)", structure("f", structure("@", a, one), structure("=", b, c)), 0},
		{"f((a), ((b)))", structure("f", a, b), 0},
		{"((f(a)))", structure("f", a), 0},
		{"g(f(X, 3), X) @ Y", structure("@", structure("g", structure("f", local(0), three), local(0)), local(1)), 2},
		{variables(16), nil, 16},
	} {
		got, locals, e, at := syntax.Term(x.text)
		if x.want == nil {
			x.want = got
		}
		if !same(got, x.want) || locals != x.locals || e != api.OK || at != 0 {
			t.Errorf("%q: %v, %d locals, %v at %d; want %v, %d", x.text, got, locals, e, at, x.want, x.locals)
		}
	}
}

func TestTermOfEachSign(t *testing.T) {
	for _, s := range signs {
		for _, text := range []string{"1 " + s + " 2", "1" + s + "2", "(1" + s + "(2))"} {
			if got, _, e, at := syntax.Term(text); !same(got, structure(s, one, two)) || e != api.OK || at != 0 {
				t.Errorf("%q: %v, %v at %d", text, got, e, at)
			}
		}
	}
}

func TestProgram(t *testing.T) {
	x, y := local(0), local(1)
	call := func(s string, args ...api.Term) api.Term { return structure(s, args...) }
	for text, want := range map[string]api.Program{
		"":             nil,
		" % nothing\n": nil,
		"p.":           {{Head: atom("p")}},
		"p :- true.":   {{Head: atom("p"), Body: []api.Term{atom("true")}}},
		"p :- a | b.":  {{Head: atom("p"), Guards: []api.Term{a}, Body: []api.Term{b}}},
		"p(X, Y) :- X > 0 | q(X) @ 1, Y = a.": {{
			Head:   call("p", x, y),
			Guards: []api.Term{call(">", x, number(0))},
			Body:   []api.Term{call("@", call("q", x), one), call("=", y, a)},
			Locals: 2,
		}},
		"p(Y) :- X > Y, a | Z = X, q(Y). q(Z, Y, _).r:-b.": {{
			Head:   call("p", x),
			Guards: []api.Term{call(">", y, x), a},
			Body:   []api.Term{call("=", local(2), y), call("q", x)},
			Locals: 3,
		}, {
			Head:   call("q", x, y, local(2)),
			Locals: 3,
		}, {
			Head: atom("r"),
			Body: []api.Term{b},
		}},
		"p(X = Y, X @ 1) :- 1, X, ?0_1, (a), -1.": {{
			Head:   call("p", call("=", x, y), call("@", x, one)),
			Body:   []api.Term{one, x, variable(0, 1), a, number(-1)},
			Locals: 2,
		}},
		"p :- a, a, a, a | a, a, a, a, a, a, a, a.": {{
			Head:   atom("p"),
			Guards: slices.Repeat([]api.Term{a}, api.MaxGuards),
			Body:   slices.Repeat([]api.Term{a}, api.MaxBody),
		}},
	} {
		if got, e, at := syntax.Program(text); !reflect.DeepEqual(got, want) || e != api.OK || at != 0 {
			t.Errorf("%q: %v, %v at %d; want %v", text, got, e, at, want)
		}
	}
}

func TestProgramAtItsLimits(t *testing.T) {
	most := strings.Repeat("p(X).", api.MaxClauses)
	for name, text := range map[string]string{
		"clauses":        most,
		"head":           "p(" + deep(api.MaxCells-1) + ").",
		"guard and goal": "p :- " + deep(api.MaxCells) + " | " + deep(api.MaxCells) + ", " + deep(api.MaxCells) + ".",
		"brackets":       "p :- " + strings.Repeat("(", 300) + deep(api.MaxCells) + strings.Repeat(")", 300) + ".",
		"locals":         strings.Repeat("p(X) :- "+variables(api.MaxLocals-1)+", X, V0.", 3),
		"text":           "p." + strings.Repeat(" ", api.MaxText-2),
		"remark":         "p." + strings.Repeat("%", api.MaxText-2),
	} {
		if p, e, at := syntax.Program(text); e != api.OK || at != 0 || len(p) == 0 {
			t.Errorf("%s: %v at %d", name, e, at)
		}
	}
}

// wrong is a text, and what must be told of it; a ~ stands ahead of the place that is told, or else it is the end.
type wrong struct {
	text string
	e    api.Errno
}

func (w wrong) cut() (string, int) {
	ahead, behind, found := strings.Cut(w.text, "~")
	if !found {
		return w.text, len(w.text)
	}
	return ahead + behind, len(ahead)
}

func wrongPrograms() []wrong {
	return []wrong{
		{"p(X ~:- q.", api.ErrSyntax}, {"p(", api.ErrEnd}, {"p( % more\n  ", api.ErrEnd}, {"p", api.ErrEnd}, {"p ", api.ErrEnd},
		{"~P.", api.ErrSyntax}, {"~1.", api.ErrSyntax}, {"~?0_0.", api.ErrSyntax}, {"~(p).", api.ErrSyntax}, {"~-1.", api.ErrSyntax},
		{"~.", api.ErrSyntax}, {"~)", api.ErrSyntax}, {"p ~q.", api.ErrSyntax}, {"p~, q.", api.ErrSyntax}, {"p~ | a.", api.ErrSyntax},
		{"p. ~P", api.ErrSyntax}, {"p.~.", api.ErrSyntax}, {"p ~= q.", api.ErrSyntax}, {"p ~@ 1.", api.ErrSyntax}, {"p ~+ 1.", api.ErrSyntax},
		{"p(~).", api.ErrSyntax}, {"p(a,~).", api.ErrSyntax}, {"p(~,a).", api.ErrSyntax}, {"p(a ~b).", api.ErrSyntax}, {"p(a)~(b).", api.ErrSyntax},
		{"p(a~.", api.ErrSyntax}, {"p(a", api.ErrEnd}, {"p(a,", api.ErrEnd}, {"p(a)", api.ErrEnd}, {"p(a) ~q.", api.ErrSyntax},
		{"p :-", api.ErrEnd}, {"p :- ~.", api.ErrSyntax}, {"p :- ~| a.", api.ErrSyntax}, {"p :- a", api.ErrEnd}, {"p :- a |", api.ErrEnd},
		{"p :- a | ~.", api.ErrSyntax}, {"p :- a | b ~| c.", api.ErrSyntax}, {"p :- a ~:- b.", api.ErrSyntax}, {"p :- a,", api.ErrEnd},
		{"p :- a, ~.", api.ErrSyntax}, {"p :- a, ~| b.", api.ErrSyntax}, {"p :- ~, a.", api.ErrSyntax}, {"p :- a | b", api.ErrEnd},
		{"p :- a = b ~= c.", api.ErrSyntax}, {"p :- a < b ~> c.", api.ErrSyntax}, {"p :- a @ 1 ~@ 2.", api.ErrSyntax},
		{"p :- a @ b ~= c.", api.ErrSyntax}, {"p :- a = ~= b.", api.ErrSyntax}, {"p :- a @ ~@ b.", api.ErrSyntax}, {"p :- a =", api.ErrEnd},
		{"p :- - ~X.", api.ErrSyntax}, {"p :- -~-1.", api.ErrSyntax}, {"p :- -~(1).", api.ErrSyntax}, {"p :- -~a.", api.ErrSyntax},
		{"p :- -", api.ErrEnd}, {"p :- -~?0_0.", api.ErrSyntax}, {"p :- ~+1.", api.ErrSyntax}, {"p :- 1 + ~+ 1.", api.ErrSyntax},
		{"p :- 1 * ~* 1.", api.ErrSyntax}, {"p :- ~* 1.", api.ErrSyntax}, {"p :- 1 *", api.ErrEnd}, {"p :- 1 +", api.ErrEnd},
		{"p :- (a~.", api.ErrSyntax}, {"p :- (a~, b).", api.ErrSyntax}, {"p :- a~).", api.ErrSyntax}, {"p :- (~).", api.ErrSyntax},
		{"p :- (", api.ErrEnd}, {"p :- (a", api.ErrEnd}, {"p :- X~(1).", api.ErrSyntax}, {"p :- 1~(2).", api.ErrSyntax}, {"p :- (a)~(b).", api.ErrSyntax},
		{"p :- X ~Y.", api.ErrSyntax}, {"p :- 1 ~2.", api.ErrSyntax}, {"p :- ?0_0 ~?0_1.", api.ErrSyntax}, {"p :- X ~q(Y).", api.ErrSyntax},

		{"p(~2147483649).", api.ErrNumber}, {"p(-~2147483649).", api.ErrNumber}, {"p :- 1 - ~2147483649.", api.ErrNumber},
		{"p(~1099511627776).", api.ErrNumber}, {"p(-~1099511627776).", api.ErrNumber},
		{"p(~?4_0).", api.ErrNumber}, {"p :- ~?1099511627776_0.", api.ErrNumber}, {"p(~?4_0 b).", api.ErrNumber}, {"p(?3_0 ~b).", api.ErrSyntax},
		{"p(a ~2147483649).", api.ErrSyntax}, {"p(a ~?4_0).", api.ErrSyntax}, {"~2147483649.", api.ErrSyntax},
		{"p(~2147483649", api.ErrNumber}, {"p(X, ~?4_0, 2147483649).", api.ErrNumber},

		{"p(~07).", api.ErrNumber}, {"p(~1099511627777).", api.ErrNumber}, {"p ~; q.", api.ErrChar}, {"p(~?1).", api.ErrChar},
		{"~abcdefghijklmnopq.", api.ErrLong}, {"p(~Abcdefghijklmnopq).", api.ErrLong},
		{"P) ~;", api.ErrChar}, {"p(2147483649) ~07", api.ErrNumber}, {"p p ~abcdefghijklmnopq", api.ErrLong},
	}
}

// wrongLengths are those of P3.1's ErrLong, and what is told ahead of it.
func wrongLengths() []wrong {
	nine, long := rowOf(9, "a"), deep(api.MaxCells+1)
	full := strings.Repeat("p.", api.MaxClauses)
	return []wrong{
		{"p~(" + nine + ").", api.ErrLong}, {"p :- f~(" + nine + ").", api.ErrLong}, {"p :- f~(" + nine + ") b", api.ErrLong},
		{"p(" + nine, api.ErrEnd}, {"p(" + nine + " ~b).", api.ErrSyntax}, {"p(" + nine + "~.", api.ErrSyntax},
		{"p(f~(" + nine + "), 2147483649).", api.ErrLong}, {"p(~2147483649, f(" + nine + ")).", api.ErrNumber},
		{"p(f~(" + nine + ")," + nine + ").", api.ErrLong}, {"p~(f(a)," + nine + ").", api.ErrLong},
		{"p~(" + rowOf(5000, "a") + ").", api.ErrLong}, {"p~ (" + nine + ") | .", api.ErrLong},

		{"~p(" + long + ").", api.ErrLong}, {"q. ~p(" + deep(api.MaxCells) + ").", api.ErrLong}, {"q. ~p(" + long + ") q", api.ErrLong},
		{"p :- ~" + long + ".", api.ErrLong}, {"p :- a, ~((" + long + ")) | b.", api.ErrLong}, {"p :- a | b, ~-1 + " + long + ", c.", api.ErrLong},
		{"p :- ~" + long + " )", api.ErrLong}, {"p :- ~" + long, api.ErrLong}, {"p :- " + deep(api.MaxCells) + " ~)", api.ErrSyntax},
		{"p :- f(" + long + " ~b).", api.ErrSyntax}, {"p :- (" + long, api.ErrEnd}, {"p :- " + long + " + ~2147483649.", api.ErrNumber},
		{"p :- ~1" + strings.Repeat("+1", 128) + ".", api.ErrLong}, {"p :- 1" + strings.Repeat("+1", 127) + " ~)", api.ErrSyntax},
		{"p :- ~1" + strings.Repeat("*1", 5000) + ".", api.ErrLong}, {"p :- ~" + deep(5000) + ".", api.ErrLong},
		{"p :- ~" + long + "," + rowOf(9, "a") + ".", api.ErrLong}, {"p :- a~(" + rowOf(8, long) + "," + long + ").", api.ErrLong},
		{"p :- ~a(" + rowOf(8, deep(32)) + ").", api.ErrLong}, {"p :- a(" + rowOf(7, deep(32)) + "," + deep(31) + ") ~)", api.ErrSyntax},

		{"p :- a,b,c,a,~b | c.", api.ErrLong}, {"p :- a,b,c,a,~b,c | a ) .", api.ErrLong}, {"p :- a,b,c,a,b ~) | c.", api.ErrSyntax},
		{"p :- a,b,c,a,~b,c,a,b,c | c.", api.ErrLong}, {"p :- a,b,c,a,~(b),c |", api.ErrLong}, {"p :- a,b,c,a,b,c", api.ErrEnd},
		{"p :- " + rowOf(8, "a") + ",~b.", api.ErrLong}, {"p :- " + rowOf(8, "a") + ",~ -1,c,a.", api.ErrLong},
		{"p :- a | " + rowOf(8, "a") + ",~X = b,c.", api.ErrLong}, {"p :- " + rowOf(8, "a") + ",~b )", api.ErrLong},
		{"p :- " + rowOf(8, "a") + ",~b", api.ErrLong}, {"p :- a | " + rowOf(8, "a") + ",~b |", api.ErrLong},
		{"p :- " + rowOf(8, "a") + ",b,~.", api.ErrSyntax}, {"p :- " + rowOf(9, "a") + ",~" + long + ".", api.ErrLong},
		{"p :- a,b,c,a,b,~" + long + " | a.", api.ErrLong},

		{full + " ~p.", api.ErrLong}, {full + "~q )", api.ErrLong}, {full + "~q", api.ErrLong}, {full + "~abcdefghijklmnop(" + nine + ").", api.ErrLong},
		{full + "~)", api.ErrSyntax}, {full + "~P.", api.ErrSyntax}, {full + "~1", api.ErrSyntax},

		{"p :- " + variables(16) + ", ~X.", api.ErrLong}, {"p :- " + variables(16) + ", ~_.", api.ErrLong}, {"p :- V15, " + variables(16) + " ~)", api.ErrSyntax},
		{"p(_,_,_,_,_,_,_,_) :- f(_,_,_,_,_,_,_,_), ~_ )", api.ErrLong}, {"p :- " + variables(16) + " ~X.", api.ErrSyntax},
		{"p(X) :- X, " + strings.Replace(variables(16), "V15", "~V15", 1) + ", 2147483649.", api.ErrLong},
		{"p(X). p(Y) :- Y, " + strings.Replace(variables(16), "V15", "~V15", 1) + ".", api.ErrLong},
	}
}

func TestWrongPrograms(t *testing.T) {
	for _, w := range append(wrongPrograms(), wrongLengths()...) {
		text, place := w.cut()
		// Blanks ahead of the place belong to no token.
		place += len(text[place:]) - len(strings.TrimLeft(text[place:], " "))
		if p, e, at := syntax.Program(text); p != nil || e != w.e || at != place {
			t.Errorf("%.90q: %v, %v at %d; want %v at %d", text, p, e, at, w.e, place)
		}
	}
}

func TestWrongTerms(t *testing.T) {
	long := deep(api.MaxCells + 1)
	for _, w := range []wrong{
		{"", api.ErrEnd}, {" % a", api.ErrEnd}, {"~)", api.ErrSyntax}, {"~:- a", api.ErrSyntax}, {"~.", api.ErrSyntax},
		{"a~.", api.ErrSyntax}, {"a ~b", api.ErrSyntax}, {"a~, b", api.ErrSyntax}, {"a ~:- b", api.ErrSyntax}, {"a ~| b", api.ErrSyntax},
		{"f(a", api.ErrEnd}, {"f(~)", api.ErrSyntax}, {"f(a~ . ", api.ErrSyntax}, {"1 -", api.ErrEnd}, {"a = b ~= c", api.ErrSyntax},
		{"~2147483649", api.ErrNumber}, {"-~2147483649", api.ErrNumber}, {"~?4_0", api.ErrNumber}, {"f~(" + rowOf(9, "a") + ")", api.ErrLong},
		{"~" + long, api.ErrLong}, {" ~(" + long + ")", api.ErrLong}, {"~" + long + " .", api.ErrLong}, {deep(api.MaxCells) + " ~.", api.ErrSyntax},
		{variables(16) + " + ~X", api.ErrLong}, {variables(16) + " + V3 + ~_ )", api.ErrLong}, {variables(16) + " ~X", api.ErrSyntax},
		{"a ) ~;", api.ErrChar}, {"~01", api.ErrNumber},
	} {
		text, place := w.cut()
		place += len(text[place:]) - len(strings.TrimLeft(text[place:], " "))
		if got, locals, e, at := syntax.Term(text); got != nil || locals != 0 || e != w.e || at != place {
			t.Errorf("%.90q: %v, %d, %v at %d; want %v at %d", text, got, locals, e, at, w.e, place)
		}
	}
}

func TestTextsThatAreTooLong(t *testing.T) {
	for _, ahead := range []string{"p.", ";", "p(", ")"} {
		text := ahead + strings.Repeat(" ", api.MaxText+1-len(ahead))
		if p, e, at := syntax.Program(text); p != nil || e != api.ErrLong || at != api.MaxText {
			t.Errorf("Program of %q and blanks: %v, %v at %d", ahead, p, e, at)
		}
		if x, n, e, at := syntax.Term(text); x != nil || n != 0 || e != api.ErrLong || at != api.MaxText {
			t.Errorf("Term of %q and blanks: %v, %v at %d", ahead, x, e, at)
		}
	}
	text := "a" + strings.Repeat(" ", api.MaxText-1)
	if x, _, e, _ := syntax.Term(text); !same(x, a) || e != api.OK {
		t.Errorf("Term of MaxText bytes: %v, %v", x, e)
	}
	if _, e, at := syntax.Program(text); e != api.ErrEnd || at != api.MaxText {
		t.Errorf("Program of MaxText bytes: %v at %d", e, at)
	}
}

// TestDeepTexts: what is nested as deep as a text can be ends, too.
func TestDeepTexts(t *testing.T) {
	half := (api.MaxText - 1) / 2
	nested := strings.Repeat("(", half) + "a" + strings.Repeat(")", half)
	if x, _, e, at := syntax.Term(nested); !same(x, a) || e != api.OK {
		t.Errorf("brackets: %v, %v at %d", x, e, at)
	}
	for text, want := range map[string]api.Errno{
		strings.Repeat("(", api.MaxText):            api.ErrEnd,
		strings.Repeat("f(", api.MaxText/2):         api.ErrEnd,
		strings.Repeat("1+", api.MaxText/2):         api.ErrEnd,
		strings.Repeat("1*", api.MaxText/2-1) + "1": api.ErrLong,
		strings.Repeat("1+(", api.MaxText/3):        api.ErrEnd,
		deep(api.MaxText / 3):                       api.ErrLong,
		"f(" + rowOf(api.MaxText/2-2, "a") + ")":    api.ErrLong,
		"f(" + strings.Repeat("-", api.MaxText-2):   api.ErrSyntax,
		strings.Repeat("a=(", 8000) + "a a":         api.ErrSyntax,
	} {
		if _, _, e, _ := syntax.Term(text); e != want {
			t.Errorf("%.20q..: %v, want %v", text, e, want)
		}
	}
}
