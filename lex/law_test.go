package lex_test

import (
	"math/big"
	"regexp"
	"slices"
	"strings"
	"testing"

	"purlin/api"
	"purlin/lex"
)

var (
	gapForm      = regexp.MustCompile(`^(?:[ \t\r\n]|%[^\n]*)*`)
	nameForm     = regexp.MustCompile(`^[a-z][a-zA-Z0-9_]*`)
	variableForm = regexp.MustCompile(`^[A-Z_][a-zA-Z0-9_]*`)
	numberForm   = regexp.MustCompile(`^[0-9]+`)
	globalForm   = regexp.MustCompile(`^\?([0-9]+)_([0-9]+)`)
	signForm     = longest(`^(?:[(),.|@=+*<>-]|:-|:=|=<|>=|=:=|=\\=)`)
	decimal      = regexp.MustCompile(`^(?:0|[1-9][0-9]*)$`)
)

func longest(s string) *regexp.Regexp {
	r := regexp.MustCompile(s)
	r.Longest()
	return r
}

func slowValue(digits string) (int, api.Errno) {
	n, _ := new(big.Int).SetString(digits, 10)
	if !decimal.MatchString(digits) || n.Cmp(big.NewInt(1<<40)) > 0 {
		return 0, api.ErrNumber
	}
	return int(n.Int64()), api.OK
}

// slowNext is Next by the forms that chapter 2 gives.
func slowNext(s string, at int) (lex.Token, int, api.Errno) {
	at += len(gapForm.FindString(s[at:]))
	rest := s[at:]
	t, e := lex.Token{At: at}, api.OK
	if rest == "" {
		return t, at, api.OK
	}
	if t.Text = nameForm.FindString(rest); t.Text != "" {
		t.Kind = lex.Name
	} else if t.Text = variableForm.FindString(rest); t.Text != "" {
		t.Kind = lex.Variable
	} else if t.Text = numberForm.FindString(rest); t.Text != "" {
		t.Kind = lex.Number
		t.N, e = slowValue(t.Text)
	} else if m := globalForm.FindStringSubmatch(rest); m != nil {
		t.Kind, t.Text = lex.Global, m[0]
		t.Node, e = slowValue(m[1])
		if e == api.OK {
			t.N, e = slowValue(m[2])
		}
	} else if t.Text = signForm.FindString(rest); t.Text != "" {
		t.Kind = lex.Sign
	} else {
		e = api.ErrChar
	}
	if (t.Kind == lex.Name || t.Kind == lex.Variable) && len(t.Text) > api.MaxName {
		e = api.ErrLong
	}
	if e != api.OK {
		return lex.Token{}, at, e
	}
	return t, at + len(t.Text), api.OK
}

// texts yields all texts of up to most letters of an alphabet.
func texts(alphabet []string, most int) func(yield func(string) bool) {
	return func(yield func(string) bool) {
		level := []string{""}
		for n := 0; n <= most; n++ {
			var next []string
			for _, s := range level {
				if !yield(s) {
					return
				}
				for _, c := range alphabet {
					next = append(next, s+c)
				}
			}
			level = next
		}
	}
}

func eachText(check func(s string)) {
	for _, c := range []struct {
		alphabet string
		most     int
	}{
		{"a Z _ 0 1 ? = : < - \\ % \n ; é", 3},
		{"= : < > - \\", 5},
		{"? 0 1 _ a", 6},
		{"% \n \r a", 6},
	} {
		alphabet := append(strings.Split(c.alphabet, " "), " ")
		for s := range texts(alphabet, c.most) {
			check(s)
		}
	}
	for _, s := range []string{
		"p(X) :- X > 0 | q(X) @ 1. % one\nq(X) :- Y := X + 1, r(Y). r(3).",
		"abcdefghijklmnop?1_20Abcdefghijklmno_ 1099511627776=\\=?0_1099511627776*_",
		"abcdefghijklmnopq", "a A0123456789012345b", "?1_1099511627777 1099511627777 18446744073709551617",
	} {
		check(s)
	}
}

func TestNextByForms(t *testing.T) {
	eachText(func(s string) {
		for at := 0; at <= len(s); at++ {
			got, behind, e := lex.Next(s, at)
			want, wantBehind, wantE := slowNext(s, at)
			if got != want || behind != wantBehind || e != wantE {
				t.Fatalf("Next(%q, %d): %v, %d, %v; want %v, %d, %v", s, at, got, behind, e, want, wantBehind, wantE)
			}
		}
	})
}

// TestAllIsNextByNext is P2.5, and what All, Count tell of errors.
func TestAllIsNextByNext(t *testing.T) {
	eachText(func(s string) {
		var want []lex.Token
		at, e := 0, api.OK
		for e == api.OK {
			var x lex.Token
			if x, at, e = slowNext(s, at); e == api.OK {
				want = append(want, x)
			}
			if e == api.OK && x.Kind == lex.End {
				at = 0
				break
			}
		}
		if e != api.OK {
			want = nil
		}
		l, gotE, gotAt := lex.All(s)
		if !slices.Equal(l, want) || gotE != e || gotAt != at {
			t.Fatalf("All(%q): %v, %v, %d; want %v, %v, %d", s, l, gotE, gotAt, want, e, at)
		}
		if n := lex.Count(s, lex.End, lex.Name, lex.Variable, lex.Number, lex.Global, lex.Sign); n != len(want) {
			t.Fatalf("Count(%q): %d, want %d", s, n, len(want))
		}
	})
}

func withoutPlaces(l []lex.Token) []lex.Token {
	l = slices.Clone(l)
	for i := range l {
		l[i].At = 0
	}
	return l
}

// TestJoinComesBack is P2.3.
func TestJoinComesBack(t *testing.T) {
	eachText(func(s string) {
		l, e, _ := lex.All(s)
		if e != api.OK {
			return
		}
		joined := lex.Join(l...)
		if again, e, _ := lex.All(joined); e != api.OK || !slices.Equal(withoutPlaces(again), withoutPlaces(l)) {
			t.Fatalf("All of %q, which is Join of All of %q: %v, %v; want %v", joined, s, again, e, l)
		}
	})
}

// TestTextsStandAtTheirPlaces is P2.4.
func TestTextsStandAtTheirPlaces(t *testing.T) {
	eachText(func(s string) {
		l, e, _ := lex.All(s)
		if e != api.OK {
			return
		}
		behind := 0
		for _, x := range l {
			between := s[behind:x.At]
			if gapForm.FindString(between) != between || !strings.HasPrefix(s[x.At:], x.Text) {
				t.Fatalf("All(%q): %v stands behind %q", s, x, between)
			}
			behind = x.At + len(x.Text)
		}
		if behind != len(s) {
			t.Fatalf("All(%q) ends at %d", s, behind)
		}
	})
}

// TestMoreBetweenTokens is P2.6.
func TestMoreBetweenTokens(t *testing.T) {
	eachText(func(s string) {
		l, e, _ := lex.All(s)
		if e != api.OK {
			return
		}
		for _, more := range []string{" ", "\t", "\r", "\n", "% a ; 07\n", "%\n"} {
			for _, x := range l {
				longer := s[:x.At] + more + s[x.At:]
				// Behind a remark that the text's end ends, what is put in belongs to that remark; a line feed ends it first.
				if x.Kind == lex.End {
					longer = s + "\n" + more
				}
				if again, e, _ := lex.All(longer); e != api.OK || !slices.Equal(withoutPlaces(again), withoutPlaces(l)) {
					t.Fatalf("All(%q): %v, %v; want as of %q", longer, again, e, s)
				}
			}
		}
	})
}
