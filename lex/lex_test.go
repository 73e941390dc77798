package lex_test

import (
	"math"
	"slices"
	"strings"
	"testing"

	"purlin/api"
	"purlin/lex"
)

// The calls have the forms that chapter 2 lists, the kinds their numbers.
var (
	_ func(string, int) (lex.Token, int, api.Errno) = lex.Next
	_ func(string) ([]lex.Token, api.Errno, int)    = lex.All
	_ func(string, int) (int, int)                  = lex.Line
	_ func(...lex.Token) string                     = lex.Join
	_ func(string, ...lex.Kind) int                 = lex.Count
	_                                               = [...]lex.Kind{0: lex.End, 1: lex.Name, 2: lex.Variable, 3: lex.Number, 4: lex.Global, 5: lex.Sign}
)

func TestKinds(t *testing.T) {
	if lex.End != 0 || lex.Name != 1 || lex.Variable != 2 || lex.Number != 3 || lex.Global != 4 || lex.Sign != 5 {
		t.Error("a kind has another number")
	}
}

func tokens(l ...lex.Token) []lex.Token { return l }

func TestAll(t *testing.T) {
	for _, c := range []struct {
		s    string
		want []lex.Token
	}{
		{"", tokens(lex.Token{})},
		{" \t\r\n", tokens(lex.Token{At: 4})},
		{"% all of it", tokens(lex.Token{At: 11})},
		{"% one\r% two\n% three\n", tokens(lex.Token{At: 20})},
		{"p(X1):-X1=<3.", tokens(
			lex.Token{Kind: lex.Name, Text: "p"}, lex.Token{Kind: lex.Sign, Text: "(", At: 1},
			lex.Token{Kind: lex.Variable, Text: "X1", At: 2}, lex.Token{Kind: lex.Sign, Text: ")", At: 4},
			lex.Token{Kind: lex.Sign, Text: ":-", At: 5}, lex.Token{Kind: lex.Variable, Text: "X1", At: 7},
			lex.Token{Kind: lex.Sign, Text: "=<", At: 9}, lex.Token{Kind: lex.Number, Text: "3", N: 3, At: 11},
			lex.Token{Kind: lex.Sign, Text: ".", At: 12}, lex.Token{At: 13})},
		{"?1_20", tokens(lex.Token{Kind: lex.Global, Text: "?1_20", Node: 1, N: 20}, lex.Token{At: 5})},
		{"?0_0", tokens(lex.Token{Kind: lex.Global, Text: "?0_0"}, lex.Token{At: 4})},
		{"X=-1", tokens(
			lex.Token{Kind: lex.Variable, Text: "X"}, lex.Token{Kind: lex.Sign, Text: "=", At: 1},
			lex.Token{Kind: lex.Sign, Text: "-", At: 2}, lex.Token{Kind: lex.Number, Text: "1", N: 1, At: 3}, lex.Token{At: 4})},
		{"a=:=b", tokens(
			lex.Token{Kind: lex.Name, Text: "a"}, lex.Token{Kind: lex.Sign, Text: "=:=", At: 1},
			lex.Token{Kind: lex.Name, Text: "b", At: 4}, lex.Token{At: 5})},
		{"_", tokens(lex.Token{Kind: lex.Variable, Text: "_"}, lex.Token{At: 1})},
		{"_a9 aB_0", tokens(
			lex.Token{Kind: lex.Variable, Text: "_a9"}, lex.Token{Kind: lex.Name, Text: "aB_0", At: 4}, lex.Token{At: 8})},
		{"12ab1_2", tokens(
			lex.Token{Kind: lex.Number, Text: "12", N: 12}, lex.Token{Kind: lex.Name, Text: "ab1_2", At: 2}, lex.Token{At: 7})},
		{"1_2", tokens(
			lex.Token{Kind: lex.Number, Text: "1", N: 1}, lex.Token{Kind: lex.Variable, Text: "_2", At: 1}, lex.Token{At: 3})},
		{"?1_2_3", tokens(
			lex.Token{Kind: lex.Global, Text: "?1_2", Node: 1, N: 2}, lex.Token{Kind: lex.Variable, Text: "_3", At: 4}, lex.Token{At: 6})},
		{"a%b\nc", tokens(lex.Token{Kind: lex.Name, Text: "a"}, lex.Token{Kind: lex.Name, Text: "c", At: 4}, lex.Token{At: 5})},
		{"a\r\n\tb ", tokens(lex.Token{Kind: lex.Name, Text: "a"}, lex.Token{Kind: lex.Name, Text: "b", At: 4}, lex.Token{At: 6})},
	} {
		if l, e, at := lex.All(c.s); !slices.Equal(l, c.want) || e != api.OK || at != 0 {
			t.Errorf("All(%q): %v, %v, %d; want %v", c.s, l, e, at, c.want)
		}
	}
}

func TestSigns(t *testing.T) {
	all := []string{"(", ")", ",", ".", "|", ":-", "@", "=", ":=", "+", "-", "*", "<", "=<", ">", ">=", "=:=", "=\\="}
	for _, s := range all {
		want := lex.Token{Kind: lex.Sign, Text: s}
		if got, behind, e := lex.Next(s, 0); got != want || behind != len(s) || e != api.OK {
			t.Errorf("Next(%q): %v, %d, %v", s, got, behind, e)
		}
		if got, behind, e := lex.Next(s+"a", 0); got != want || behind != len(s) || e != api.OK {
			t.Errorf("Next(%q): %v, %d, %v", s+"a", got, behind, e)
		}
	}
	for s, want := range map[string]string{
		"=<=": "=< =", "<==": "< = =", "=>": "= >", ">==": ">= =", ">=<": ">= <", "==": "= =", "=:==": "=:= =",
		":==": ":= =", ":-:-": ":- :-", "=-": "= -", "=:=:=": "=:= :=", "=\\==": "=\\= =", "..": ". .", "->": "- >", "-->": "- - >",
	} {
		if l, e, _ := lex.All(s); e != api.OK || lex.Join(l...) != want {
			t.Errorf("All(%q): %v, %v, want %s", s, l, e, want)
		}
	}
}

func TestErrors(t *testing.T) {
	sixteen := strings.Repeat("a", api.MaxName)
	long := strings.Repeat("9", 1<<16)
	for _, c := range []struct {
		s  string
		e  api.Errno
		at int
	}{
		{"07", api.ErrNumber, 0}, {"00", api.ErrNumber, 0}, {"a 01", api.ErrNumber, 2}, {"000x", api.ErrNumber, 0},
		{"p : q", api.ErrChar, 2}, {"?1", api.ErrChar, 0}, {"a=:b", api.ErrChar, 2}, {"a=\\b", api.ErrChar, 2},
		{":", api.ErrChar, 0}, {"=:", api.ErrChar, 1}, {"\\", api.ErrChar, 0}, {"a;", api.ErrChar, 1}, {"a/b", api.ErrChar, 1},
		{"{", api.ErrChar, 0}, {"`", api.ErrChar, 0}, {"[", api.ErrChar, 0}, {"^", api.ErrChar, 0}, {"a\x00", api.ErrChar, 1},
		{"a\v", api.ErrChar, 1}, {"a\f", api.ErrChar, 1}, {"é", api.ErrChar, 0}, {"aé", api.ErrChar, 1}, {"\xff", api.ErrChar, 0},
		{"a\u00a0b", api.ErrChar, 1}, {"% x\n ;", api.ErrChar, 5},
		{"?", api.ErrChar, 0}, {"??", api.ErrChar, 0}, {"?_", api.ErrChar, 0}, {"?_1", api.ErrChar, 0}, {"?1_", api.ErrChar, 0},
		{"?1_a", api.ErrChar, 0}, {"?1__2", api.ErrChar, 0}, {"?a", api.ErrChar, 0}, {"? 1_2", api.ErrChar, 0}, {"?1 _2", api.ErrChar, 0},
		{"?1_ 2", api.ErrChar, 0}, {"?-1_2", api.ErrChar, 0}, {"?1_-2", api.ErrChar, 0}, {"x ?1", api.ErrChar, 2},
		{"?01", api.ErrChar, 0}, {"?01_", api.ErrChar, 0}, {"?" + long, api.ErrChar, 0}, {"?" + long + "_", api.ErrChar, 0},
		{"?01_2", api.ErrNumber, 0}, {"?1_02", api.ErrNumber, 0}, {"?00_0", api.ErrNumber, 0}, {" ?0_00", api.ErrNumber, 1},
		{"1099511627777", api.ErrNumber, 0}, {"?1099511627777_0", api.ErrNumber, 0}, {"?0_1099511627777", api.ErrNumber, 0},
		{"9223372036854775808", api.ErrNumber, 0}, {"18446744073709551616", api.ErrNumber, 0}, {"18446744073709551617", api.ErrNumber, 0},
		{"10995116277760", api.ErrNumber, 0}, {long, api.ErrNumber, 0}, {"1" + strings.Repeat("0", 64), api.ErrNumber, 0},
		{"0" + long, api.ErrNumber, 0}, {long + "a", api.ErrNumber, 0},
		{sixteen + "a", api.ErrLong, 0}, {"A" + sixteen, api.ErrLong, 0}, {"_" + sixteen, api.ErrLong, 0}, {"b " + sixteen + "_", api.ErrLong, 2},
		{strings.Repeat("a", 1<<16), api.ErrLong, 0}, {sixteen + "0;", api.ErrLong, 0},
	} {
		if l, e, at := lex.All(c.s); len(l) != 0 || e != c.e || at != c.at {
			t.Errorf("All(%.20q): %v, %v, %d; want %v, %d", c.s, l, e, at, c.e, c.at)
		}
		if got, at, e := lex.Next(c.s, c.at); got != (lex.Token{}) || e != c.e || at != c.at {
			t.Errorf("Next(%.20q, %d): %v, %d, %v; want %v", c.s, c.at, got, at, e, c.e)
		}
	}
}

func TestGreatest(t *testing.T) {
	for _, c := range []struct {
		s    string
		want lex.Token
	}{
		{"1099511627776", lex.Token{Kind: lex.Number, N: 1 << 40}},
		{"1099511627775", lex.Token{Kind: lex.Number, N: 1<<40 - 1}},
		{"0", lex.Token{Kind: lex.Number}},
		{"10", lex.Token{Kind: lex.Number, N: 10}},
		{"2147483649", lex.Token{Kind: lex.Number, N: 1<<31 + 1}},
		{"?1099511627776_1099511627776", lex.Token{Kind: lex.Global, Node: 1 << 40, N: 1 << 40}},
		{"?4_0", lex.Token{Kind: lex.Global, Node: 4}},
		{"abcdefghijklmnop", lex.Token{Kind: lex.Name}},
		{"Abcdefghijklmno_", lex.Token{Kind: lex.Variable}},
		{"_0123456789ABCDE", lex.Token{Kind: lex.Variable}},
	} {
		c.want.Text = c.s
		if got, behind, e := lex.Next(c.s, 0); got != c.want || behind != len(c.s) || e != api.OK {
			t.Errorf("Next(%q): %v, %d, %v; want %v", c.s, got, behind, e, c.want)
		}
	}
}

func TestNextAtPlaces(t *testing.T) {
	const s = " ab % c\n D"
	for at, want := range []lex.Token{
		{Kind: lex.Name, Text: "ab", At: 1}, {Kind: lex.Name, Text: "ab", At: 1}, {Kind: lex.Name, Text: "b", At: 2},
		{Kind: lex.Variable, Text: "D", At: 9}, {Kind: lex.Variable, Text: "D", At: 9},
		{Kind: lex.Name, Text: "c", At: 6}, {Kind: lex.Name, Text: "c", At: 6}, {Kind: lex.Variable, Text: "D", At: 9},
		{Kind: lex.Variable, Text: "D", At: 9}, {Kind: lex.Variable, Text: "D", At: 9}, {At: 10},
	} {
		if got, behind, e := lex.Next(s, at); got != want || behind != want.At+len(want.Text) || e != api.OK {
			t.Errorf("Next at %d: %v, %d, %v; want %v", at, got, behind, e, want)
		}
	}
	for _, at := range []int{math.MinInt, -1, len(s) + 1, math.MaxInt} {
		if got, behind, e := lex.Next(s, at); got != (lex.Token{}) || behind != 0 || e != api.ErrRange {
			t.Errorf("Next at %d: %v, %d, %v", at, got, behind, e)
		}
	}
	if got, behind, e := lex.Next("", 1); got != (lex.Token{}) || behind != 0 || e != api.ErrRange {
		t.Errorf("Next of nothing at 1: %v, %d, %v", got, behind, e)
	}
	if got, behind, e := lex.Next("", 0); got != (lex.Token{}) || behind != 0 || e != api.OK {
		t.Errorf("Next of nothing: %v, %d, %v", got, behind, e)
	}
	if got, behind, e := lex.Next("; ", 1); got != (lex.Token{At: 2}) || behind != 2 || e != api.OK {
		t.Errorf("Next behind what is none: %v, %d, %v", got, behind, e)
	}
}

func TestLine(t *testing.T) {
	for _, s := range []string{"", "a", "\n", "a\nbc", "\n\n", "a\n\nb\n", "\r\n\tx\r", "é\né", "%\n%"} {
		line, column := 1, 1
		for at := 0; at <= len(s); at++ {
			if a, b := lex.Line(s, at); a != line || b != column {
				t.Errorf("Line(%q, %d): %d, %d; want %d, %d", s, at, a, b, line, column)
			}
			if at == len(s) {
				break
			}
			if column++; s[at] == '\n' {
				line, column = line+1, 1
			}
		}
		for _, at := range []int{-1, math.MinInt} {
			if a, b := lex.Line(s, at); a != 1 || b != 1 {
				t.Errorf("Line(%q, %d): %d, %d", s, at, a, b)
			}
		}
		for _, at := range []int{len(s) + 1, math.MaxInt} {
			if a, b := lex.Line(s, at); a != line || b != column {
				t.Errorf("Line(%q, %d): %d, %d; want %d, %d", s, at, a, b, line, column)
			}
		}
	}
}

func TestJoin(t *testing.T) {
	a, none, b := lex.Token{Kind: lex.Name, Text: "a", At: 7}, lex.Token{At: 3}, lex.Token{Kind: 99, Text: "b c"}
	for _, c := range []struct {
		l    []lex.Token
		want string
	}{
		{nil, ""}, {tokens(none), ""}, {tokens(none, none), ""}, {tokens(a), "a"}, {tokens(a, b), "a b c"},
		{tokens(none, a, none, none, b, none), "a b c"}, {tokens(a, a, a), "a a a"},
		{tokens(lex.Token{Kind: lex.Number, N: 5}), ""}, {tokens(lex.Token{Kind: lex.End, Text: "x"}), "x"},
	} {
		if got := lex.Join(c.l...); got != c.want {
			t.Errorf("Join(%v): %q, want %q", c.l, got, c.want)
		}
	}
}

func TestCount(t *testing.T) {
	const s = "p(X, Y) :- X =< 3, ?1_2 = q. % r"
	for _, c := range []struct {
		s     string
		kinds []lex.Kind
		want  int
	}{
		{s, nil, 0}, {s, []lex.Kind{lex.Name}, 2}, {s, []lex.Kind{lex.Variable}, 3}, {s, []lex.Kind{lex.Number}, 1},
		{s, []lex.Kind{lex.Global}, 1}, {s, []lex.Kind{lex.Sign}, 8}, {s, []lex.Kind{lex.End}, 1},
		{s, []lex.Kind{lex.Name, lex.Variable}, 5}, {s, []lex.Kind{lex.Name, lex.Name, lex.Name}, 2},
		{s, []lex.Kind{0, 1, 2, 3, 4, 5}, 16}, {s, []lex.Kind{6, 255}, 0}, {s, []lex.Kind{6, lex.Number, 255}, 1},
		{"", []lex.Kind{lex.End}, 1}, {"", []lex.Kind{lex.Name}, 0},
		{"a b ;", []lex.Kind{lex.Name, lex.End}, 0}, {"a b 07", []lex.Kind{lex.Name}, 0}, {"a=:=b", []lex.Kind{lex.Name, lex.Sign}, 3},
	} {
		if got := lex.Count(c.s, c.kinds...); got != c.want {
			t.Errorf("Count(%q, %v): %d, want %d", c.s, c.kinds, got, c.want)
		}
	}
}

// TestNothingIsShared is P3: lists that are handed in stay, spare room too; answers are new each time.
func TestNothingIsShared(t *testing.T) {
	l := make([]lex.Token, 2, 4)
	l[0], l[1] = lex.Token{Kind: lex.Name, Text: "a"}, lex.Token{}
	l[:4][2], l[:4][3] = lex.Token{Text: "mark"}, lex.Token{Text: "mark"}
	kinds := make([]lex.Kind, 1, 3)
	kinds[0], kinds[:3][1], kinds[:3][2] = lex.Name, 77, 78
	before, kindsBefore := slices.Clone(l[:4]), slices.Clone(kinds[:3])
	if lex.Join(l...) != "a" || lex.Count("a B 1", kinds...) != 1 {
		t.Error("Join, Count")
	}
	if !slices.Equal(l[:4], before) || !slices.Equal(kinds[:3], kindsBefore) {
		t.Error("what was handed in is changed")
	}
	one, _, _ := lex.All("a b")
	two, _, _ := lex.All("a b")
	kept := slices.Clone(two)
	for i := range one[:cap(one)] {
		one[:cap(one)][i] = lex.Token{Kind: 99}
	}
	three, _, _ := lex.All("a b")
	if !slices.Equal(two, kept) || !slices.Equal(three, kept) {
		t.Error("answers lie in one another")
	}
}
