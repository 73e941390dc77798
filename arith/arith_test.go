package arith_test

import (
	"math"
	"math/big"
	"slices"
	"strings"
	"testing"

	"purlin/api"
	"purlin/arith"
	"purlin/heap"
	"purlin/syntax"
	"purlin/term"
)

// The calls have the forms that chapter 6 lists.
var (
	_ func(*heap.Heap, api.Term) (int, api.Outcome, []api.Name) = arith.Value
	_ func(*heap.Heap, api.Term) (api.Outcome, []api.Name)      = arith.Guard
	_ func(*heap.Heap, ...api.Term) (api.Outcome, []api.Name)   = arith.Guards
	_ func(string, ...int) (int, bool)                          = arith.Reckon
)

func name(node, number int) api.Name { return api.Name{Node: node, Number: number} }

func termOf(t *testing.T, text string) api.Term {
	t.Helper()
	x, _, e, at := syntax.Term(text)
	if e != api.OK {
		t.Fatalf("%q: %v at %d", text, e, at)
	}
	return x
}

func termsOf(t *testing.T, texts ...string) []api.Term {
	t.Helper()
	var l []api.Term
	for _, s := range texts {
		l = append(l, termOf(t, s))
	}
	return l
}

// names reads variables: ?0_1 X ?1_0.
func names(t *testing.T, text string) []api.Name {
	t.Helper()
	var l []api.Name
	for _, s := range strings.Fields(text) {
		l = append(l, termOf(t, s)[0].Var)
	}
	return l
}

// known is a map with values of all kinds, and links to them.
func known(t *testing.T) *heap.Heap {
	t.Helper()
	h := heap.New()
	for _, b := range [][2]string{
		{"?0_1", "1"}, {"?0_2", "-5"}, {"?0_3", "a"}, {"?0_4", "f(1)"}, {"?0_5", "1 + 1"}, {"?0_6", "2147483648"},
		{"?1_0", "?0_0"}, {"?1_1", "?0_1"}, {"?1_2", "?1_1"}, {"?1_3", "?0_3"}, {"?1_4", "?0_4"}, {"?1_5", "?0_9"}, {"?1_6", "?1_0"},
		{"?2_0", "true"}, {"?2_1", "f(?0_0)"}, {"?2_2", "g"},
	} {
		if e := h.Bind(termOf(t, b[0])[0].Var, termOf(t, b[1])); e != api.OK {
			t.Fatal(b, e)
		}
	}
	return h
}

// nested is op(op(..(last)..)) of so many cells.
func nested(op string, cells int, last api.Term) api.Term {
	for len(last) < cells {
		last = append(api.Term{{Kind: api.Struct, Text: op, N: 1}}, last...)
	}
	return last
}

func TestValueOfNumbers(t *testing.T) {
	h := known(t)
	for s, want := range map[string]int{
		"0": 0, "7": 7, "-7": -7, "2147483648": api.MaxNumber, "-2147483648": -api.MaxNumber,
		"?0_1": 1, "?0_2": -5, "?0_6": api.MaxNumber, "?1_1": 1, "?1_2": 1,
		"?0_1 + 2 * 3": 7, "1 - (2 - 3)": 2, "1 - 2 - 3": -4, "(?0_1 + 2) * 3": 9, "?1_2 - ?0_2": 6,
		"div(-7, 2)": -4, "mod(-7, 2)": 1, "mod(7, -2)": -1, "div(7, -2)": -4, "div(7, 2)": 3, "mod(7, 2)": 1,
		"div(-7, -2)": 3, "mod(-7, -2)": -1, "div(6, -2)": -3, "mod(6, -2)": 0, "div(0, -2)": 0, "mod(0, 5)": 0,
		"abs(-3)": 3, "abs(3)": 3, "abs(0)": 0, "abs(min(2, -3))": 3, "min(2, 1)": 1, "max(2, 1)": 2, "max(-2, -1)": -1,
		"2147483647 + 1": api.MaxNumber, "-2147483647 - 1": -api.MaxNumber, "2147483648 - 2147483648": 0,
		"65536 * 32768": api.MaxNumber, "65536 * -32768": -api.MaxNumber, "div(-2147483648, -1)": api.MaxNumber,
		"abs(-2147483648)": api.MaxNumber, "div(2147483648, -1)": -api.MaxNumber, "mod(2147483648, -2147483648)": 0,
		"max(abs(?0_2), ?0_1 * 4)": 5, "div(mod(17, 10), min(3, 2)) + -1": 2,
	} {
		if n, o, l := arith.Value(h, termOf(t, s)); n != want || o != api.Commits || len(l) != 0 {
			t.Errorf("Value(%s): %d, %v, %v; want %d", s, n, o, l, want)
		}
	}
}

func TestValueFails(t *testing.T) {
	h := known(t)
	for _, s := range []string{
		"a", "f(1)", "true", "abs", "?0_3", "?0_4", "?0_5", "?1_3", "?1_4", "?2_0",
		"?0_0 + a", "a + ?0_0", "?0_0 + f(1)", "?0_0 + ?0_3", "?0_4 + ?0_0", "X + ?0_5", "1 + ?0_5",
		"div(1, 0)", "mod(1, 0)", "div(0, 0)", "mod(0, 0)", "div(1, ?0_1 - 1)", "?0_0 + div(1, 0)", "div(1, 0) + ?0_0",
		"2147483648 + 1", "-2147483648 - 1", "2147483648 - -1", "65536 * 32769", "65537 * -32768", "2147483648 * 2147483648",
		"2147483648 * -2147483648", "?0_6 + ?0_1", "2147483648 + 1 - 1", "?0_0 + (?0_6 + 1)", "0 * (2147483648 + 1)",
		"min(0, 2147483648 + 1)", "max(2147483648 * 2, 1)", "abs(-2147483648 - 1)",
		"abs(1, 2)", "abs(X, Y)", "min(1)", "min(X)", "max(1, 2, 3)", "max(X, Y, Z)", "div(1)", "mod(1, 2, 3)", "plus(1, 2)",
		"1 < 2", "1 = 1", "X = Y", "X := 1", "p @ 1", "integer(1)", "?0_0 + (1 < 2)", "abs(a)", "abs(f(X))",
		"X + Y + a", "a + X + Y", "X + (Y + (?0_0 + b))", "min(X, max(Y, f(Z)))",
	} {
		if n, o, l := arith.Value(h, termOf(t, s)); n != 0 || o != api.Fails || len(l) != 0 {
			t.Errorf("Value(%s): %d, %v, %v; want Fails", s, n, o, l)
		}
	}
}

func TestValueWaits(t *testing.T) {
	h := known(t)
	for s, want := range map[string]string{
		"?0_0": "?0_0", "X": "X", "?1_0": "?0_0", "?1_6": "?0_0", "?1_5": "?0_9", "?3_0": "?3_0",
		"?0_9 + ?0_0": "?0_9 ?0_0", "?0_0 + ?0_9 + ?0_0": "?0_0 ?0_9", "?0_0 + ?0_0": "?0_0",
		"?1_0 + ?0_0": "?0_0", "?1_5 + ?1_0 + ?1_6": "?0_9 ?0_0", "?0_1 + ?0_0": "?0_0", "?0_0 * 0": "?0_0", "0 * ?0_0": "?0_0",
		"div(?0_0, 0)": "?0_0", "mod(?0_0, 0)": "?0_0", "div(0, ?0_0)": "?0_0", "abs(?0_0)": "?0_0", "abs(abs(?0_0))": "?0_0",
		"min(?3_0, max(?0_0, ?2_9))": "?3_0 ?0_0 ?2_9", "max(min(?3_0, ?0_0), ?2_9)": "?3_0 ?0_0 ?2_9",
		"2147483648 + ?0_0 + 1": "?0_0", "?0_0 - ?0_0": "?0_0", "?0_0 + 1 + 2 * ?0_9": "?0_0 ?0_9",
	} {
		if n, o, l := arith.Value(h, termOf(t, s)); n != 0 || o != api.Suspends || !slices.Equal(l, names(t, want)) {
			t.Errorf("Value(%s): %d, %v, %v; want to wait for %s", s, n, o, l, want)
		}
	}
	// The clause's variables of a text are numbered as they come.
	if _, o, l := arith.Value(h, termOf(t, "X + Y + X")); o != api.Suspends || !slices.Equal(l, []api.Name{name(-1, 0), name(-1, 1)}) {
		t.Error(o, l)
	}
}

// notRight are terms that are none, each for a reason of its own.
func notRight() []api.Term {
	one := api.Cell{Kind: api.Int, N: 1}
	sum := api.Cell{Kind: api.Struct, Text: "+", N: 2}
	less := api.Cell{Kind: api.Struct, Text: "<", N: 2}
	return []api.Term{
		nil, {}, {{}}, {{Kind: 9}}, {one, one}, {sum}, {sum, one}, {sum, one, one, one}, {less, one}, {less},
		{{Kind: api.Int, N: api.MaxNumber + 1}}, {{Kind: api.Int, N: -api.MaxNumber - 1}}, {{Kind: api.Int, N: math.MinInt}},
		{{Kind: api.Int, N: 1, Text: "a"}}, {{Kind: api.Struct, Text: "+", N: 1}, one}, {{Kind: api.Struct, Text: "abs", N: 0}},
		{{Kind: api.Struct, Text: "abs", N: math.MaxInt}, one}, {{Kind: api.Struct, Text: "abs", N: math.MinInt}},
		{{Kind: api.Var, Var: name(-2, 0)}}, {{Kind: api.Var, Var: name(0, -1)}}, {{Kind: api.Var, Var: name(api.MaxNodes, 0)}},
		{sum, one, {Kind: api.Var, Var: name(0, -1)}}, {less, one, {Kind: api.Int, N: math.MaxInt}},
		{{Kind: api.Atom, Text: "true", N: 1}}, {{Kind: api.Struct, Text: "true"}}, {{Kind: api.Atom, Text: "true"}, one},
		{{Kind: api.Atom, Text: "<"}}, {{Kind: api.Struct, Text: "known", N: 1}}, {{Kind: api.Struct, Text: "equal", N: 2}, one},
		nested("abs", api.MaxCells+1, api.Term{one}), nested("integer", api.MaxCells+1, api.Term{one}),
	}
}

func TestWrongTermsFail(t *testing.T) {
	for _, h := range []*heap.Heap{nil, heap.New(), known(t)} {
		for _, x := range notRight() {
			if n, o, l := arith.Value(h, x); n != 0 || o != api.Fails || len(l) != 0 {
				t.Errorf("Value(%v): %d, %v, %v", x, n, o, l)
			}
			if o, l := arith.Guard(h, x); o != api.Fails || len(l) != 0 {
				t.Errorf("Guard(%v): %v, %v", x, o, l)
			}
			if o, l := arith.Guards(h, termOf(t, "X > 0"), x, termOf(t, "true")); o != api.Fails || len(l) != 0 {
				t.Errorf("Guards(%v): %v, %v", x, o, l)
			}
		}
	}
}

func TestMaxCells(t *testing.T) {
	x := nested("abs", api.MaxCells, api.Term{{Kind: api.Int, N: -3}})
	if n, o, _ := arith.Value(nil, x); n != 3 || o != api.Commits {
		t.Error(n, o)
	}
	x[api.MaxCells-1] = api.Cell{Kind: api.Var, Var: name(1, 1)}
	if n, o, l := arith.Value(nil, x); n != 0 || o != api.Suspends || !slices.Equal(l, []api.Name{name(1, 1)}) {
		t.Error(n, o, l)
	}
	// 127 pluses, 128 variables, all unlike.
	wide := api.Term{{Kind: api.Var, Var: name(0, 0)}}
	want := []api.Name{name(0, 0)}
	for i := 1; i < 128; i++ {
		wide = append(api.Term{{Kind: api.Struct, Text: "+", N: 2}}, wide...)
		wide = append(wide, api.Cell{Kind: api.Var, Var: name(i%4, i*7)})
		want = append(want, name(i%4, i*7))
	}
	if _, o, l := arith.Value(nil, wide); o != api.Suspends || !slices.Equal(l, want) {
		t.Error(o, l)
	}
}

func TestGuardHolds(t *testing.T) {
	h := known(t)
	for _, s := range []string{
		"true", "1 < 2", "-1 < 0", "1 =< 2", "2 =< 2", "2 > 1", "2 >= 1", "2 >= 2", "2 =:= 2", "2 =\\= 1", "1 =\\= 2",
		"?0_1 > 0", "?1_2 =:= 1", "0 - 5 =:= ?0_2", "?0_6 > 2147483647", "abs(-2) + 1 =:= 3", "div(-7, 2) < -3",
		"integer(1)", "integer(-1)", "integer(?0_1)", "integer(?1_2)", "atom(a)", "atom(true)", "atom(?0_3)", "atom(?1_3)",
		"compound(f(1))", "compound(f(X))", "compound(?0_4)", "compound(?1_4)", "compound(1 + 1)", "compound(?2_1)",
		"known(1)", "known(a)", "known(f(X))", "known(?0_1)", "known(?1_4)", "known(?2_1)",
		"equal(1, 1)", "equal(a, a)", "equal(?0_1, 1)", "equal(a, ?1_3)", "equal(?0_1, ?1_2)",
		"unlike(1, 2)", "unlike(a, b)", "unlike(1, a)", "unlike(f(1), 3)", "unlike(3, f(1))", "unlike(a, f(a))", "unlike(?2_1, 1)",
		"unlike(?0_1, ?0_3)", "unlike(f, f(X))",
	} {
		if o, l := arith.Guard(h, termOf(t, s)); o != api.Commits || len(l) != 0 {
			t.Errorf("Guard(%s): %v, %v; want Commits", s, o, l)
		}
	}
}

func TestGuardFails(t *testing.T) {
	h := known(t)
	for _, s := range []string{
		"2 < 1", "2 < 2", "3 =< 2", "1 > 2", "2 > 2", "1 >= 2", "1 =:= 2", "2 =\\= 2",
		"X < a", "a < X", "?0_0 > f(1)", "?0_4 > ?0_0", "a =:= a", "a =\\= b", "X >= div(1, 0)", "mod(1, 0) =< ?0_0",
		"2147483648 + 1 > 0", "?0_0 < 2147483648 * 2", "?0_5 =:= 2", "X + a =\\= Y",
		"integer(a)", "integer(f(1))", "integer(1 + 1)", "integer(?0_3)", "integer(?0_5)", "integer(?2_1)",
		"atom(1)", "atom(f(1))", "atom(?0_1)", "atom(?0_4)", "compound(1)", "compound(a)", "compound(?0_1)", "compound(?1_3)",
		"equal(1, 2)", "equal(a, b)", "equal(1, a)", "equal(f(1), f(1))", "equal(?0_4, ?0_4)", "equal(f(1), 3)", "equal(f, f(1))", "equal(?0_1, ?0_3)",
		"unlike(1, 1)", "unlike(a, a)", "unlike(f(1), f(2))", "unlike(f(1), f(1))", "unlike(f(1), g(2, 3))", "unlike(?0_4, ?2_1)",
		"unlike(?0_0, ?0_0)", "unlike(X, X)", "unlike(?1_0, ?0_0)", "unlike(?1_6, ?1_0)", "unlike(?0_1, ?1_2)",
		"1", "a", "false", "f(1)", "X", "?0_0", "?2_0", "true(1)", "X = Y", "1 = 1", "X := 1", "p @ 1", "1 + 1", "X + Y", "abs(1)",
		"integer(1, 2)", "integer(X, Y)", "atom(a, b)", "known(X, Y)", "known", "compound(f(1), 2)", "equal(X)", "equal(1, 1, 1)",
		"unlike(1)", "unlike(1, 2, 3)", "unlike(X, Y, Z)", "other(X)", "equal", "integer",
	} {
		if o, l := arith.Guard(h, termOf(t, s)); o != api.Fails || len(l) != 0 {
			t.Errorf("Guard(%s): %v, %v; want Fails", s, o, l)
		}
	}
}

func TestGuardWaits(t *testing.T) {
	h := known(t)
	for s, want := range map[string]string{
		"?0_0 > 0": "?0_0", "0 > ?0_0": "?0_0", "?0_9 < ?0_0": "?0_9 ?0_0", "?0_0 =< ?0_0": "?0_0", "?1_0 >= ?0_0": "?0_0",
		"?0_0 =:= ?0_0": "?0_0", "?0_0 =\\= ?0_0": "?0_0", "?3_0 + ?0_0 < ?2_9 * ?3_0": "?3_0 ?0_0 ?2_9", "X > 0": "X",
		"div(?0_0, 0) > 1": "?0_0", "?0_1 < ?1_5": "?0_9",
		"integer(?0_0)": "?0_0", "integer(X)": "X", "integer(?1_6)": "?0_0", "atom(?1_5)": "?0_9", "compound(?0_0)": "?0_0", "known(?1_0)": "?0_0",
		"equal(?0_0, ?0_0)": "?0_0", "equal(X, X)": "X", "equal(?1_0, ?0_0)": "?0_0", "equal(?1_6, ?1_0)": "?0_0",
		"equal(?0_9, ?0_0)": "?0_9 ?0_0", "equal(?0_0, 1)": "?0_0", "equal(1, ?0_0)": "?0_0", "equal(f(1), ?0_0)": "?0_0", "equal(?1_5, ?0_4)": "?0_9",
		"unlike(?0_9, ?0_0)": "?0_9 ?0_0", "unlike(?1_0, ?1_5)": "?0_0 ?0_9", "unlike(?0_0, 1)": "?0_0", "unlike(f(1), ?0_0)": "?0_0", "unlike(a, X)": "X",
		"unlike(?0_0, f(?0_0))": "?0_0",
	} {
		if o, l := arith.Guard(h, termOf(t, s)); o != api.Suspends || !slices.Equal(l, names(t, want)) {
			t.Errorf("Guard(%s): %v, %v; want to wait for %s", s, o, l, want)
		}
	}
}

func TestGuards(t *testing.T) {
	h := known(t)
	for _, c := range []struct {
		l     string
		want  api.Outcome
		waits string
	}{
		{"true", api.Commits, ""}, {"true;1 < 2;known(a)", api.Commits, ""}, {"?0_1 > 0;integer(?1_2)", api.Commits, ""},
		{"1 > 2", api.Fails, ""}, {"?0_0 > 0;1 > 2", api.Fails, ""}, {"1 > 2;?0_0 > 0", api.Fails, ""}, {"true;?0_0 > 0;true;f(1)", api.Fails, ""},
		{"?0_0 > 0;?0_0 < a", api.Fails, ""}, {"X;true", api.Fails, ""}, {"?0_0 > 0;unlike(?1_0, ?0_0)", api.Fails, ""},
		{"?0_0 > 0", api.Suspends, "?0_0"}, {"true;?0_0 > 0;true", api.Suspends, "?0_0"},
		{"?0_9 > ?3_0;true;?0_0 < ?0_9;known(?1_6)", api.Suspends, "?0_9 ?3_0 ?0_0"},
		{"equal(?1_5, ?1_0);?0_0 > ?0_9;known(?2_9)", api.Suspends, "?0_9 ?0_0 ?2_9"},
	} {
		l := termsOf(t, strings.Split(c.l, ";")...)
		if o, waits := arith.Guards(h, l...); o != c.want || !slices.Equal(waits, names(t, c.waits)) {
			t.Errorf("Guards(%s): %v, %v; want %v, %s", c.l, o, waits, c.want, c.waits)
		}
	}
	for _, h := range []*heap.Heap{nil, heap.New(), h} {
		if o, l := arith.Guards(h); o != api.Commits || len(l) != 0 {
			t.Error("Guards of none:", o, l)
		}
		if o, l := arith.Guards(h, []api.Term{}...); o != api.Commits || len(l) != 0 {
			t.Error("Guards of an empty list:", o, l)
		}
	}
	var many []api.Term
	for i := range 3000 {
		many = append(many, termOf(t, "known(?0_0)"))
		many[i][1].Var = name(i%4, i/8)
	}
	if o, l := arith.Guards(nil, many...); o != api.Suspends || !slices.Equal(l, term.Vars(many...)) {
		t.Error("Guards of many:", o, len(l))
	}
}

// TestNilHeap: it has no values.
func TestNilHeap(t *testing.T) {
	for s, want := range map[string]api.Outcome{"1 + 1": api.Commits, "?0_1": api.Suspends, "?0_1 + a": api.Fails} {
		if _, o, _ := arith.Value(nil, termOf(t, s)); o != want {
			t.Errorf("Value(nil, %s): %v", s, o)
		}
	}
	for s, want := range map[string]api.Outcome{"1 < 2": api.Commits, "known(?0_1)": api.Suspends, "unlike(?0_1, ?0_1)": api.Fails, "equal(?0_1, ?0_2)": api.Suspends} {
		if o, _ := arith.Guard(nil, termOf(t, s)); o != want {
			t.Errorf("Guard(nil, %s): %v", s, o)
		}
	}
}

// exactly is Reckon by the chapter's words, in numbers without a limit; nil: it cannot be.
func exactly(op string, l ...int) *big.Int {
	var b []*big.Int
	for _, n := range l {
		b = append(b, big.NewInt(int64(n)))
	}
	if op == "abs" && len(l) == 1 {
		return new(big.Int).Abs(b[0])
	}
	if len(l) != 2 {
		return nil
	}
	if (op == "div" || op == "mod") && l[1] == 0 {
		return nil
	}
	switch op {
	case "+":
		return new(big.Int).Add(b[0], b[1])
	case "-":
		return new(big.Int).Sub(b[0], b[1])
	case "*":
		return new(big.Int).Mul(b[0], b[1])
	case "div":
		return quotient(b[0], b[1])
	case "mod":
		return new(big.Int).Sub(b[0], new(big.Int).Mul(b[1], quotient(b[0], b[1])))
	case "min":
		return big.NewInt(int64(min(l[0], l[1])))
	case "max":
		return big.NewInt(int64(max(l[0], l[1])))
	}
	return nil
}

// quotient is the greatest whole number that, times b, is not above a; or, if b is below 0, not below a.
func quotient(a, b *big.Int) *big.Int {
	fits := func(q *big.Int) bool {
		c := new(big.Int).Mul(q, b).Cmp(a)
		return b.Sign() > 0 && c <= 0 || b.Sign() < 0 && c >= 0
	}
	q := new(big.Int).Quo(a, b)
	for !fits(q) {
		q.Sub(q, big.NewInt(1))
	}
	for next := new(big.Int).Add(q, big.NewInt(1)); fits(next); next = new(big.Int).Add(q, big.NewInt(1)) {
		q = next
	}
	return q
}

func operands() []int {
	l := []int{math.MinInt, math.MinInt + 1, math.MaxInt, math.MaxInt - 1, 1 << 32, -1 << 32, 1 << 62, 1 << 16, 1 << 15, -1 << 15, 46340, 46341, -46341, 1000003}
	for i := -12; i <= 12; i++ {
		l = append(l, i)
	}
	for i := -2; i <= 2; i++ {
		l = append(l, api.MaxNumber+i, -api.MaxNumber+i, api.MaxNumber/2+i, -api.MaxNumber/2+i, i+math.MinInt32, i+math.MaxInt32)
	}
	return l
}

func inside(l ...int) bool {
	return !slices.ContainsFunc(l, func(n int) bool { return n < -api.MaxNumber || n > api.MaxNumber })
}

func TestReckon(t *testing.T) {
	least, most := big.NewInt(-api.MaxNumber), big.NewInt(api.MaxNumber)
	try := func(op string, l ...int) {
		n, ok := arith.Reckon(op, l...)
		want := exactly(op, l...)
		if !inside(l...) || want == nil || want.Cmp(least) < 0 || want.Cmp(most) > 0 {
			if ok || n != 0 {
				t.Errorf("Reckon(%s, %v): %d, %v; want false", op, l, n, ok)
			}
			return
		}
		if !ok || want.Cmp(big.NewInt(int64(n))) != 0 {
			t.Errorf("Reckon(%s, %v): %d, %v; want %v", op, l, n, ok, want)
		}
	}
	for _, op := range []string{"+", "-", "*", "div", "mod", "min", "max", "abs", "", "a", "<", "=", "Div", "div ", "/", "true"} {
		try(op)
		try(op, []int{}...)
		for _, a := range operands() {
			try(op, a)
			try(op, a, a, a)
			for _, b := range operands() {
				try(op, a, b)
			}
		}
		try(op, make([]int, 1000)...)
	}
}

// TestDivMod is P6.6.
func TestDivMod(t *testing.T) {
	for _, a := range operands() {
		for _, b := range operands() {
			if !inside(a, b) || b == 0 {
				continue
			}
			q, ok := arith.Reckon("div", a, b)
			m, also := arith.Reckon("mod", a, b)
			if !ok || !also || a != b*q+m {
				t.Errorf("%d, %d: div %d, %v; mod %d, %v", a, b, q, ok, m, also)
			}
			if b > 0 && (m < 0 || m >= b) || b < 0 && (m > 0 || m <= b) {
				t.Errorf("%d mod %d: %d", a, b, m)
			}
		}
	}
}
