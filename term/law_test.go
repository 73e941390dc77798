package term_test

import (
	"fmt"
	"math"
	"slices"
	"testing"

	"purlin/api"
	"purlin/term"
)

// rows yields all rows of up to most cells that a palette gives: right ones and others.
func rows(palette []api.Cell, most int) func(yield func(api.Term) bool) {
	return func(yield func(api.Term) bool) {
		level := []api.Term{nil}
		for n := 0; n <= most; n++ {
			var next []api.Term
			for _, t := range level {
				if !yield(t) {
					return
				}
				for _, c := range palette {
					next = append(next, append(slices.Clone(t), c))
				}
			}
			level = next
		}
	}
}

var mixed = []api.Cell{
	number(1), atom("a"), local(0), variable(1, 2), structure("f", 1), structure("g", 2), structure("=", 2),
	structure("f", 0), structure("f", -3), structure("f", math.MaxInt), {Kind: 9, N: 1},
}

// slowEnd goes down from argument to argument, as the chapter says what a term is.
func slowEnd(t api.Term, at int) int {
	if at < 0 || at >= len(t) {
		return 0
	}
	behind := at + 1
	for n := 0; t[at].Kind == api.Struct && n < t[at].N; n++ {
		if behind = slowEnd(t, behind); behind == 0 {
			return 0
		}
	}
	return behind
}

func slowCell(c api.Cell) bool {
	return c != structure("f", 0) && c != structure("f", -3) && c != structure("f", math.MaxInt) && c.Kind != 9
}

func TestAllShortRows(t *testing.T) {
	n := 0
	for row := range rows(mixed, 4) {
		n++
		for at := -1; at <= len(row)+1; at++ {
			if got, want := term.End(row, at), slowEnd(row, at); got != want {
				t.Fatalf("End(%v, %d): %d, want %d", row, at, got, want)
			}
		}
		right := len(row) > 0 && slowEnd(row, 0) == len(row) && !slices.ContainsFunc(row, func(c api.Cell) bool { return !slowCell(c) })
		if term.Right(row) != right {
			t.Fatalf("Right(%v): want %v", row, right)
		}
		if term.Global(row) != (right && !slices.Contains(row, local(0))) {
			t.Fatalf("Global(%v)", row)
		}
		thereAndBack(t, row, right)
	}
	if n != 1+11+121+1331+14641 {
		t.Error("rows:", n)
	}
}

// thereAndBack is P1.5.
func thereAndBack(t *testing.T, row api.Term, right bool) {
	args := term.Args(row)
	if !right || row[0].Kind != api.Struct {
		if len(args) != 0 {
			t.Fatalf("Args(%v): %v", row, args)
		}
		return
	}
	if len(args) != row[0].N {
		t.Fatalf("Args(%v): %v", row, args)
	}
	made, e := term.Make(row[0].Text, args...)
	if e != api.OK || !same(made, row) {
		t.Fatalf("Make of Args of %v: %v, %v", row, made, e)
	}
	if again := term.Args(made); !sameAll(again, args) {
		t.Fatalf("Args of Make of %v: %v", args, again)
	}
}

// TestPutNamesTheirVariables is P1.7.
func TestPutNamesTheirVariables(t *testing.T) {
	palette := []api.Cell{number(1), local(0), local(1), variable(0, 0), variable(1, 2), structure("f", 1), structure("g", 2)}
	locals := []api.Term{
		{structure("h", 2), variable(1, 2), variable(3, 3)},
		{structure("h", 2), local(5), variable(2, 0)},
	}
	for row := range rows(palette, 5) {
		if !term.Right(row) {
			continue
		}
		p, e := term.Put(row, locals)
		if e != api.OK || !term.Right(p) || term.Global(row) && !same(p, row) {
			t.Fatalf("Put(%v): %v, %v", row, p, e)
		}
		var want []api.Name
		for _, v := range term.Vars(row) {
			if v.Node == -1 {
				want = append(want, term.Vars(locals[v.Number])...)
			} else {
				want = append(want, v)
			}
		}
		if got := term.Vars(p); !slices.Equal(sorted(got), sorted(want)) {
			t.Fatalf("Vars of Put(%v): %v, want %v", row, got, want)
		}
	}
}

func sorted(l []api.Name) []api.Name {
	l = slices.SortedFunc(slices.Values(l), func(a, b api.Name) int {
		switch {
		case term.Less(a, b):
			return -1
		case term.Less(b, a):
			return 1
		}
		return 0
	})
	return slices.Compact(l)
}

// TestErrorsLeaveNothing is P2 of the calls that have an error.
func TestErrorsLeaveNothing(t *testing.T) {
	for row := range rows(mixed, 3) {
		for _, locals := range [][]api.Term{nil, {nil}, {{number(1)}}, {{{Kind: 9}}}, {{number(1)}, {number(1), number(1)}}} {
			if p, e := term.Put(row, locals); (e == api.OK) != term.Right(p) || e != api.OK && len(p) != 0 {
				t.Fatalf("Put(%v, %v): %v, %v", row, locals, p, e)
			}
		}
		for _, text := range []string{"", "f", "=", "F"} {
			for n := range 4 {
				p, e := term.Make(text, slices.Repeat([]api.Term{row}, n)...)
				if (e == api.OK) != term.Right(p) || e != api.OK && len(p) != 0 {
					t.Fatalf("Make(%q, %v) of %d: %v, %v", text, row, n, p, e)
				}
			}
		}
	}
}

const spare = 4

// roomy is a term with room behind its end that is marked.
func roomy(t api.Term) api.Term {
	r := make(api.Term, len(t), len(t)+spare)
	copy(r, t)
	behind := r[len(t):cap(r)]
	for i := range behind {
		behind[i] = api.Cell{Kind: 77, Text: "mark", N: i}
	}
	return r
}

func roomyList(l ...api.Term) []api.Term {
	r := make([]api.Term, len(l), len(l)+spare)
	for i, t := range l {
		r[i] = roomy(t)
	}
	behind := r[len(l):cap(r)]
	for i := range behind {
		behind[i] = api.Term{{Kind: 78}}
	}
	return r
}

func whole(l []api.Term) string {
	s := ""
	for _, t := range l[:cap(l)] {
		s += fmt.Sprintln(len(t), t[:cap(t)])
	}
	return s
}

func wipe(l ...api.Term) {
	for _, t := range l {
		for i := range t[:cap(t)] {
			t[:cap(t)][i] = api.Cell{Kind: 99}
		}
	}
}

// TestNothingIsShared is P3: what is handed in stays, spare room too; what is answered is the caller's.
func TestNothingIsShared(t *testing.T) {
	f := api.Term{structure("f", 2), local(0), structure("g", 1), variable(1, 1)}
	for _, in := range [][]api.Term{
		roomyList(f, api.Term{local(0)}, api.Term{number(1)}),
		roomyList(api.Term{number(1)}, f),
		roomyList(api.Term{local(0)}, api.Term{variable(0, 0)}),
		roomyList(api.Term{{Kind: 9}}, f),
	} {
		before := whole(in)
		made, _ := term.Make("h", in...)
		put, _ := term.Put(in[0], in)
		alone, _ := term.Put(in[1], in[1:])
		args := term.Args(in[0])
		vars := term.Vars(in...)
		answers := append(slices.Clone(args), made, put, alone)
		for i, a := range answers {
			others := fmt.Sprint(answers[:i], answers[i+1:])
			wipe(a)
			if fmt.Sprint(answers[:i], answers[i+1:]) != others {
				t.Error("an answer lies in another one")
			}
		}
		for i := range vars {
			vars[i] = name(99, 99)
		}
		for _, x := range in {
			term.Right(x)
			term.Global(x)
			term.Equal(x, in[0])
			term.Is(x, "f", 2)
			term.End(x, 0)
		}
		if whole(in) != before {
			t.Errorf("what was handed in is changed: %s, was %s", whole(in), before)
		}
	}
}

// TestAnswersAreNew is P3 and P6: what a caller does to an answer changes no later one.
func TestAnswersAreNew(t *testing.T) {
	f := api.Term{structure("f", 2), local(0), structure("g", 1), variable(1, 1)}
	for range 3 {
		p, _ := term.Put(f, []api.Term{{number(1)}})
		answers := append(term.Args(f), term.OfInt(1), term.OfAtom("a"), term.OfVar(name(0, 0)), p)
		if s := fmt.Sprint(answers); s != fmt.Sprint([]api.Term{
			{local(0)}, f[2:], {number(1)}, {atom("a")}, {variable(0, 0)}, {f[0], number(1), f[2], f[3]},
		}) {
			t.Error(s)
		}
		wipe(answers...)
	}
}
