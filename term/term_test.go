package term_test

import (
	"fmt"
	"math"
	"slices"
	"strings"
	"testing"

	"purlin/api"
	"purlin/term"
)

// The calls have the forms that chapter 1 lists.
var (
	_ func(int) api.Term                               = term.OfInt
	_ func(string) api.Term                            = term.OfAtom
	_ func(api.Name) api.Term                          = term.OfVar
	_ func(string, ...api.Term) (api.Term, api.Errno)  = term.Make
	_ func(api.Term) bool                              = term.Right
	_ func(api.Term, int) int                          = term.End
	_ func(api.Term) []api.Term                        = term.Args
	_ func(api.Term, string, int) bool                 = term.Is
	_ func(api.Term, api.Term) bool                    = term.Equal
	_ func(...api.Term) []api.Name                     = term.Vars
	_ func(api.Term, []api.Term) (api.Term, api.Errno) = term.Put
	_ func(api.Term) bool                              = term.Global
	_ func(string) bool                                = term.IsName
	_ func(api.Name, api.Name) bool                    = term.Less
)

var signs = []string{"=", ":=", "@", "+", "-", "*", "<", "=<", ">", ">=", "=:=", "=\\="}

func number(n int) api.Cell              { return api.Cell{Kind: api.Int, N: n} }
func atom(s string) api.Cell             { return api.Cell{Kind: api.Atom, Text: s} }
func structure(s string, n int) api.Cell { return api.Cell{Kind: api.Struct, Text: s, N: n} }
func variable(node, number int) api.Cell { return api.Cell{Kind: api.Var, Var: name(node, number)} }
func name(node, number int) api.Name     { return api.Name{Node: node, Number: number} }
func local(number int) api.Cell          { return variable(-1, number) }
func same(a, b api.Term) bool            { return slices.Equal(a, b) }
func sameAll(a, b []api.Term) bool       { return slices.EqualFunc(a, b, same) }
func row(n int, c api.Cell) api.Term     { return slices.Repeat(api.Term{c}, n) }
func chain(cells int, end api.Cell) api.Term {
	return append(row(cells-1, structure("f", 1)), end)
}

// only checks that a call of one cell tells it if it is right, and else nothing.
func only(t *testing.T, what string, got api.Term, c api.Cell, right bool) {
	t.Helper()
	if right && !same(got, api.Term{c}) || !right && len(got) != 0 {
		t.Errorf("%s: %v, right: %v", what, got, right)
	}
}

func TestOfInt(t *testing.T) {
	const most = api.MaxNumber
	for n, right := range map[int]bool{
		0: true, 1: true, -1: true, 7: true, most: true, -most: true, most - 1: true, 1 - most: true,
		most + 1: false, -most - 1: false, 1 << 32: false, math.MaxInt: false, math.MinInt: false,
	} {
		only(t, fmt.Sprint("OfInt ", n), term.OfInt(n), number(n), right)
	}
}

func names() map[string]bool {
	m := map[string]bool{
		"a": true, "z": true, "a_B1": true, "aZ9_": true, "x0": true, "true": true,
		strings.Repeat("a", api.MaxName): true, strings.Repeat("a", api.MaxName+1): false,
		strings.Repeat("a", 1<<16): false,
		"":                         false, "F": false, "A1": false, "_a": false, "_": false, "1a": false, "9": false,
		"a b": false, " a": false, "a ": false, "a-b": false, "a.": false, "a\n": false, "a\x00": false,
		"é": false, "aé": false, "a\xff": false, "`": false, "{": false, "a@": false, "a[": false, "a/": false, "a:": false,
	}
	for _, s := range signs {
		m[s] = false
	}
	return m
}

func TestIsNameAndOfAtom(t *testing.T) {
	for s, right := range names() {
		if term.IsName(s) != right {
			t.Errorf("IsName(%q): want %v", s, right)
		}
		only(t, "OfAtom "+s, term.OfAtom(s), atom(s), right)
	}
	for b := range 256 {
		c := string([]byte{byte(b)})
		first := "a" <= c && c <= "z"
		inner := first || "A" <= c && c <= "Z" || "0" <= c && c <= "9" || c == "_"
		if term.IsName(c) != first || term.IsName("q"+c) != inner || term.IsName("q"+c+"q") != inner {
			t.Errorf("IsName with the byte %d", b)
		}
	}
}

func TestOfVar(t *testing.T) {
	for _, node := range []int{math.MinInt, -2, -1, 0, 1, api.MaxNodes - 1, api.MaxNodes, math.MaxInt} {
		for _, n := range []int{math.MinInt, -1, 0, 1, math.MaxInt} {
			right := node >= -1 && node < api.MaxNodes && n >= 0
			only(t, fmt.Sprint("OfVar ", node, n), term.OfVar(name(node, n)), variable(node, n), right)
		}
	}
}

func TestMake(t *testing.T) {
	a, x, one := api.Term{atom("a")}, api.Term{local(0)}, api.Term{number(1)}
	deep := api.Term{structure("g", 2), number(2), variable(3, 9)}
	wrong := api.Term{structure("g", 2), number(2)}
	eight := slices.Repeat([]api.Term{a}, api.MaxArity)
	for _, c := range []struct {
		text string
		args []api.Term
		want api.Term
		e    api.Errno
	}{
		{"f", []api.Term{x, {number(3)}}, api.Term{structure("f", 2), local(0), number(3)}, api.OK},
		{"f", []api.Term{one}, api.Term{structure("f", 1), number(1)}, api.OK},
		{"f", []api.Term{deep, a, deep}, slices.Concat(api.Term{structure("f", 3)}, deep, a, deep), api.OK},
		{"f", eight, slices.Concat(api.Term{structure("f", 8)}, row(8, atom("a"))), api.OK},
		{"f", append(slices.Clone(eight), a), nil, api.ErrForm},
		{"f", nil, nil, api.ErrForm},
		{"f", []api.Term{nil}, nil, api.ErrForm},
		{"f", []api.Term{a, {}}, nil, api.ErrForm},
		{"f", []api.Term{a, wrong}, nil, api.ErrForm},
		{"f", []api.Term{wrong, a}, nil, api.ErrForm},
		{"f", []api.Term{{atom("a"), atom("a")}}, nil, api.ErrForm},
		{"f", []api.Term{{number(api.MaxNumber + 1)}}, nil, api.ErrForm},
		{"=", []api.Term{a}, nil, api.ErrForm},
		{"", []api.Term{a}, nil, api.ErrForm},
		{"F", []api.Term{a}, nil, api.ErrForm},
		{":-", []api.Term{a, a}, nil, api.ErrForm},
		{"abcdefghijklmnop", []api.Term{a}, api.Term{structure("abcdefghijklmnop", 1), atom("a")}, api.OK},
		{"abcdefghijklmnopq", []api.Term{a}, nil, api.ErrForm},
		{"f", []api.Term{chain(255, atom("a"))}, chain(256, atom("a")), api.OK},
		{"f", []api.Term{chain(256, atom("a"))}, nil, api.ErrLong},
		{"f", []api.Term{chain(255, atom("a")), a}, nil, api.ErrLong},
		{"f", slices.Repeat([]api.Term{chain(256, atom("a"))}, 8), nil, api.ErrLong},
		{"f", []api.Term{chain(257, atom("a"))}, nil, api.ErrForm},
		{"F", []api.Term{chain(256, atom("a"))}, nil, api.ErrForm},
		{"f", []api.Term{chain(256, atom("a")), wrong}, nil, api.ErrForm},
		{"f", slices.Repeat([]api.Term{chain(256, atom("a"))}, 9), nil, api.ErrForm},
	} {
		if got, e := term.Make(c.text, c.args...); !same(got, c.want) || e != c.e {
			t.Errorf("Make(%q, %v): %v, %v; want %v, %v", c.text, c.args, got, e, c.want, c.e)
		}
	}
}

func TestMakeOfSigns(t *testing.T) {
	a := api.Term{atom("a")}
	for _, s := range signs {
		for n := range 10 {
			got, e := term.Make(s, slices.Repeat([]api.Term{a}, n)...)
			if n == 2 && (e != api.OK || !same(got, api.Term{structure(s, 2), atom("a"), atom("a")})) {
				t.Errorf("Make(%q) of two: %v, %v", s, got, e)
			}
			if n != 2 && (e != api.ErrForm || len(got) != 0) {
				t.Errorf("Make(%q) of %d: %v, %v", s, n, got, e)
			}
		}
	}
	for _, s := range []string{"==", "=>", "<=", ":", "/", "\\", ",", "|", ".", "(", "=\\", "=:", " =", "= ", "=:=="} {
		if got, e := term.Make(s, a, a); e != api.ErrForm || len(got) != 0 {
			t.Errorf("Make(%q): %v, %v", s, got, e)
		}
	}
}

func TestRightOfOneCell(t *testing.T) {
	wrong := []api.Cell{
		{}, {Kind: 5}, {Kind: 255}, {Kind: 0, N: 1}, {Kind: 0, Text: "a"}, {Kind: 5, Text: "a", N: 1},
		{Kind: api.Int, Text: "a"}, {Kind: api.Int, Var: name(0, 1)}, {Kind: api.Int, Var: name(-1, 0)},
		{Kind: api.Atom, Text: "a", N: 1}, {Kind: api.Atom, Text: "a", N: -1}, {Kind: api.Atom, Text: "a", Var: name(1, 0)},
		{Kind: api.Atom}, {Kind: api.Atom, Text: "="}, {Kind: api.Struct, Text: "f"}, {Kind: api.Struct, Text: "f", N: -1},
		{Kind: api.Var, Text: "x"}, {Kind: api.Var, N: 1}, {Kind: api.Var, N: -1},
		{Kind: api.Var, Var: name(-2, 0)}, {Kind: api.Var, Var: name(4, 0)}, {Kind: api.Var, Var: name(0, -1)},
	}
	for _, c := range wrong {
		if term.Right(api.Term{c}) || term.Right(api.Term{structure("f", 1), c}) {
			t.Errorf("right: %v", c)
		}
	}
	for _, c := range []api.Cell{
		{Kind: api.Struct, Text: "f", N: 1, Var: name(0, 1)}, {Kind: api.Struct, Text: "f", N: 1, Var: name(1, 0)},
		{Kind: api.Struct, N: 1}, {Kind: api.Struct, Text: "F", N: 1}, {Kind: api.Struct, Text: "-", N: 1},
	} {
		if term.Right(api.Term{c, number(1)}) {
			t.Errorf("right: %v of 1", c)
		}
	}
	if term.Right(append(api.Term{structure("f", 9)}, row(9, number(1))...)) {
		t.Error("right: a structure of nine")
	}
	if !term.Right(append(api.Term{structure("f", 8)}, row(8, number(1))...)) {
		t.Error("not right: a structure of eight")
	}
}

func TestRightOfRows(t *testing.T) {
	for _, c := range []struct {
		t    api.Term
		want bool
	}{
		{nil, false}, {api.Term{}, false}, {api.Term{number(1)}, true}, {api.Term{number(1), number(1)}, false},
		{api.Term{structure("f", 2), local(0), number(3)}, true},
		{api.Term{structure("f", 2), local(0)}, false},
		{api.Term{structure("f", 2), local(0), number(3), number(4)}, false},
		{api.Term{structure("f", 2), structure("g", 1), local(0), number(3)}, true},
		{api.Term{structure("f", 2), number(3), structure("g", 1)}, false},
		{api.Term{structure("=", 2), structure("+", 2), number(1), number(2), number(3)}, true},
		{chain(api.MaxCells, number(1)), true}, {chain(api.MaxCells+1, number(1)), false},
		{row(1<<16, structure("f", 1)), false},
		{row(1<<16, structure("f", 8)), false},
	} {
		if term.Right(c.t) != c.want {
			t.Errorf("Right of %d cells %v: want %v", len(c.t), c.t[:min(len(c.t), 5)], c.want)
		}
	}
}

func TestEnd(t *testing.T) {
	f := api.Term{structure("f", 2), structure("g", 1), local(0), number(3), number(4)}
	for at, want := range map[int]int{0: 4, 1: 3, 2: 3, 3: 4, 4: 5, 5: 0, 6: 0, -1: 0, math.MinInt: 0, math.MaxInt: 0} {
		if got := term.End(f, at); got != want {
			t.Errorf("End at %d: %d, want %d", at, got, want)
		}
	}
	for _, c := range []struct {
		t        api.Term
		at, want int
	}{
		{nil, 0, 0},
		{api.Term{structure("f", 2), local(0), number(3)}, 1, 2},
		{api.Term{structure("F", 0)}, 0, 1},
		{api.Term{structure("f", -1), number(1)}, 0, 1},
		{api.Term{structure("f", math.MinInt)}, 0, 1},
		{api.Term{structure("f", math.MaxInt)}, 0, 0},
		{api.Term{structure("f", math.MaxInt), structure("f", math.MaxInt), number(1)}, 0, 0},
		// A sum of these that goes round would be 0 behind the last one.
		{api.Term{structure("f", math.MaxInt), structure("f", 3), structure("f", math.MaxInt), structure("f", 2)}, 0, 0},
		{api.Term{structure("f", 1)}, 0, 0},
		{append(api.Term{structure("f", 300)}, row(300, number(1))...), 0, 301},
		{append(api.Term{structure("f", 301)}, row(300, number(1))...), 0, 0},
		{api.Term{{Kind: api.Int, N: 2}, number(1), number(1)}, 0, 1},
		{api.Term{{Kind: api.Atom, Text: "a", N: 2}, number(1), number(1)}, 0, 1},
		{api.Term{{Kind: api.Var, N: 2}, number(1), number(1)}, 0, 1},
		{api.Term{{Kind: 9, N: 2}, number(1), number(1)}, 0, 1},
	} {
		if got := term.End(c.t, c.at); got != c.want {
			t.Errorf("End(%v, %d): %d, want %d", c.t[:min(len(c.t), 5)], c.at, got, c.want)
		}
	}
}

func TestArgs(t *testing.T) {
	g := api.Term{structure("g", 1), local(0)}
	for _, c := range []struct {
		t    api.Term
		want []api.Term
	}{
		{nil, nil}, {api.Term{number(1)}, nil}, {api.Term{atom("a")}, nil}, {api.Term{local(0)}, nil},
		{api.Term{structure("f", 0)}, nil},
		{api.Term{structure("f", 2), number(1)}, nil},
		{api.Term{structure("f", 1), number(1), number(2)}, nil},
		{api.Term{structure("F", 1), number(1)}, nil},
		{api.Term{structure("f", 1), {Kind: 9}}, nil},
		{g, []api.Term{{local(0)}}},
		{slices.Concat(api.Term{structure("f", 3)}, g, api.Term{number(3)}, g), []api.Term{g, {number(3)}, g}},
		{api.Term{structure("=", 2), atom("a"), number(1)}, []api.Term{{atom("a")}, {number(1)}}},
		{chain(257, number(1)), nil},
		{chain(256, number(1)), []api.Term{chain(255, number(1))}},
	} {
		if got := term.Args(c.t); !sameAll(got, c.want) {
			t.Errorf("Args(%v): %v, want %v", c.t, got, c.want)
		}
	}
}

func TestIs(t *testing.T) {
	for _, c := range []struct {
		t     api.Term
		text  string
		arity int
		want  bool
	}{
		{nil, "", 0, false}, {nil, "a", 0, false}, {api.Term{}, "", 0, false},
		{api.Term{atom("a")}, "a", 0, true}, {api.Term{atom("a")}, "b", 0, false},
		{api.Term{atom("a")}, "a", 1, false}, {api.Term{atom("a")}, "a", -1, false},
		{api.Term{structure("f", 1), number(1)}, "f", 1, true},
		{api.Term{structure("f", 1), number(1)}, "f", 0, false},
		{api.Term{structure("f", 1), number(1)}, "f", 2, false},
		{api.Term{structure("f", 1), number(1)}, "g", 1, false},
		{api.Term{structure("=", 2), number(1), number(1)}, "=", 2, true},
		{api.Term{structure("f", 2)}, "f", 2, true},
		{api.Term{structure("f", 0)}, "f", 0, true},
		{api.Term{structure("f", -1)}, "f", -1, true},
		{api.Term{atom("a"), number(1)}, "a", 0, true},
		{api.Term{{Kind: api.Atom, Text: "a", N: 1}}, "a", 1, false},
		{api.Term{{Kind: api.Atom, Text: "a", N: 1}}, "a", 0, true},
		{api.Term{number(1)}, "", 1, false}, {api.Term{number(0)}, "", 0, false}, {api.Term{local(0)}, "", 0, false},
		{api.Term{{Kind: 9, Text: "a"}}, "a", 0, false},
	} {
		if term.Is(c.t, c.text, c.arity) != c.want {
			t.Errorf("Is(%v, %q, %d): want %v", c.t, c.text, c.arity, c.want)
		}
	}
}

func TestEqual(t *testing.T) {
	rows := []api.Term{
		{}, {number(1)}, {number(2)}, {atom("a")}, {atom("b")}, {local(0)}, {local(1)}, {variable(0, 0)},
		{structure("f", 1), number(1)}, {structure("f", 1), number(2)}, {structure("f", 1)}, {{}}, {{Kind: 9}},
		{number(1), number(1)}, {{Kind: api.Int, N: 1, Text: "a"}}, {{Kind: api.Atom, Text: "a", N: 1}},
	}
	for i, a := range rows {
		for j, b := range rows {
			if term.Equal(a, slices.Clone(b)) != (i == j) {
				t.Errorf("Equal(%v, %v): want %v", a, b, i == j)
			}
		}
	}
	if !term.Equal(nil, nil) || !term.Equal(nil, api.Term{}) || term.Equal(nil, api.Term{{}}) {
		t.Error("Equal of nil")
	}
}

func TestVars(t *testing.T) {
	x, y := name(-1, 0), name(2, 7)
	f := api.Term{structure("f", 2), local(0), structure("g", 2), variable(2, 7), local(0)}
	odd := api.Term{variable(-9, -9), {Kind: api.Int, Var: name(3, 3)}, {Kind: 9, Var: name(3, 3)}, variable(2, 7)}
	for _, c := range []struct {
		l    []api.Term
		want []api.Name
	}{
		{nil, nil}, {[]api.Term{nil, {}}, nil}, {[]api.Term{{number(1)}}, nil},
		{[]api.Term{f}, []api.Name{x, y}}, {[]api.Term{f, f}, []api.Name{x, y}},
		{[]api.Term{{variable(2, 7)}, f}, []api.Name{y, x}},
		{[]api.Term{odd, f}, []api.Name{name(-9, -9), y, x}},
		{[]api.Term{{variable(0, 1)}, {variable(1, 0)}, {variable(0, 0)}}, []api.Name{name(0, 1), name(1, 0), name(0, 0)}},
	} {
		if got := term.Vars(c.l...); !slices.Equal(got, c.want) {
			t.Errorf("Vars(%v): %v, want %v", c.l, got, c.want)
		}
	}
	var many api.Term
	var want []api.Name
	for i := range 1000 {
		many = append(many, variable(1, (i*7)%1000))
		want = append(want, name(1, (i*7)%1000))
	}
	if got := term.Vars(many, many); !slices.Equal(got, want) {
		t.Error("Vars of a thousand: not as they first come")
	}
}

func TestPut(t *testing.T) {
	g1 := api.Term{structure("g", 1), number(1)}
	wrong := api.Term{structure("g", 1)}
	fx := api.Term{structure("f", 1), local(0)}
	fxyx := api.Term{structure("f", 4), local(0), variable(0, 1), local(1), local(0)}
	pair := api.Term{structure("f", 2), local(0), local(0)}
	for _, c := range []struct {
		t      api.Term
		locals []api.Term
		want   api.Term
		e      api.Errno
	}{
		{fx, []api.Term{g1}, api.Term{structure("f", 1), structure("g", 1), number(1)}, api.OK},
		{fxyx, []api.Term{g1, {atom("a")}}, slices.Concat(api.Term{structure("f", 4)}, g1, api.Term{variable(0, 1), atom("a")}, g1), api.OK},
		{api.Term{local(0)}, []api.Term{g1}, g1, api.OK},
		{api.Term{local(1)}, []api.Term{nil, g1}, g1, api.OK},
		{api.Term{local(0)}, []api.Term{{local(1)}}, api.Term{local(1)}, api.OK},
		{api.Term{local(0)}, []api.Term{{local(1)}, g1}, api.Term{local(1)}, api.OK},
		{fx, []api.Term{fx}, api.Term{structure("f", 1), structure("f", 1), local(0)}, api.OK},
		{api.Term{variable(0, 0)}, []api.Term{g1}, api.Term{variable(0, 0)}, api.OK},
		{g1, nil, g1, api.OK}, {g1, []api.Term{nil, {}}, g1, api.OK},
		{fx, nil, nil, api.ErrNone}, {fx, []api.Term{nil}, nil, api.ErrNone}, {fx, []api.Term{{}, g1}, nil, api.ErrNone},
		{fxyx, []api.Term{g1}, nil, api.ErrNone}, {api.Term{local(math.MaxInt)}, []api.Term{g1}, nil, api.ErrNone},
		{nil, nil, nil, api.ErrForm}, {nil, []api.Term{g1}, nil, api.ErrForm}, {wrong, []api.Term{g1}, nil, api.ErrForm},
		{api.Term{local(-1)}, []api.Term{g1}, nil, api.ErrForm}, {g1, []api.Term{wrong}, nil, api.ErrForm},
		{fx, []api.Term{nil, wrong}, nil, api.ErrForm}, {fx, []api.Term{g1, nil, wrong}, nil, api.ErrForm},
		{chain(255, local(0)), []api.Term{g1}, append(row(254, structure("f", 1)), g1...), api.OK},
		{chain(256, local(0)), []api.Term{g1}, nil, api.ErrLong},
		{chain(256, local(0)), []api.Term{{number(1)}}, chain(256, number(1)), api.OK},
		{pair, []api.Term{chain(128, number(1))}, nil, api.ErrLong},
		{pair, []api.Term{chain(127, number(1))}, slices.Concat(api.Term{structure("f", 2)}, chain(127, number(1)), chain(127, number(1))), api.OK},
		{api.Term{structure("f", 3), local(0), local(0), local(1)}, []api.Term{chain(256, number(1))}, nil, api.ErrNone},
		{pair, []api.Term{chain(256, number(1)), wrong}, nil, api.ErrForm},
		{pair, []api.Term{chain(256, number(1)), g1}, nil, api.ErrLong},
		{fx, []api.Term{chain(257, number(1))}, nil, api.ErrForm},
	} {
		if got, e := term.Put(c.t, c.locals); !same(got, c.want) || e != c.e {
			t.Errorf("Put(%v, %v): %v, %v; want %v, %v", c.t, c.locals, got, e, c.want, c.e)
		}
	}
}

func TestGlobal(t *testing.T) {
	for _, c := range []struct {
		t    api.Term
		want bool
	}{
		{nil, false}, {api.Term{number(1)}, true}, {api.Term{atom("a")}, true}, {api.Term{local(0)}, false},
		{api.Term{variable(0, 0)}, true}, {api.Term{variable(3, 0)}, true}, {api.Term{variable(4, 0)}, false},
		{api.Term{structure("f", 2), variable(0, 0), local(1)}, false},
		{api.Term{structure("f", 2), variable(0, 0), variable(1, 1)}, true},
		{api.Term{structure("f", 2), variable(0, 0)}, false},
		{api.Term{{Kind: api.Int, N: 1, Var: name(-1, 0)}}, false},
		{chain(256, variable(0, 0)), true}, {chain(257, variable(0, 0)), false},
	} {
		if term.Global(c.t) != c.want {
			t.Errorf("Global(%v): want %v", c.t, c.want)
		}
	}
}

func TestLessIsAnOrder(t *testing.T) {
	numbers := []int{math.MinInt, -2, -1, 0, 1, 2, math.MaxInt}
	var all []api.Name // rising
	for _, node := range numbers {
		for _, n := range numbers {
			all = append(all, name(node, n))
		}
	}
	for i, a := range all {
		for j, b := range all {
			if term.Less(a, b) != (i < j) {
				t.Errorf("Less(%v, %v): want %v", a, b, i < j)
			}
		}
	}
}
