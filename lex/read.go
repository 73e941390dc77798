package lex

import (
	"iter"
	"strings"

	"purlin/api"
	"purlin/letters"
)

// greatest is the greatest number that a token may have.
const greatest = 1 << 40

// signs has those that begin with others ahead of them, so that the first that fits is the longest.
var signs = [...]string{
	"=:=", "=\\=", ":-", ":=", "=<", ">=",
	"(", ")", ",", ".", "|", "@", "=", "+", "-", "*", "<", ">",
}

// found is what Next tells at one place.
type found struct {
	token Token
	at    int
	e     api.Errno
}

// walk yields what Next tells from the beginning on, each time from the place behind; the End or an error is the last.
func walk(s string) iter.Seq[found] {
	return func(yield func(f found) bool) {
		at := 0
		for {
			t, behind, e := Next(s, at)
			if !yield(found{t, behind, e}) || e != api.OK || t.Kind == End {
				return
			}
			at = behind
		}
	}
}

// gap is how many bytes of blanks and remarks a text begins with.
func gap(s string) int {
	n := 0
	for n < len(s) {
		switch {
		case strings.IndexByte(" \t\r\n", s[n]) >= 0:
			n++
		case s[n] == '%':
			n += letters.Run(s[n:], func(b byte) bool { return b != '\n' })
		default:
			return n
		}
	}
	return n
}

// first is the token with which a text begins, no gap ahead of it; its place is not known here.
func first(s string) (Token, api.Errno) {
	if s == "" {
		return Token{}, api.OK
	}
	kind := Name
	switch b := s[0]; {
	case b == '_' || letters.Capital(b):
		kind = Variable
		fallthrough
	case letters.Small(b):
		return word(s, kind)
	case letters.Digit(b):
		return number(s)
	case b == '?':
		return global(s)
	}
	return sign(s)
}

func word(s string, kind Kind) (Token, api.Errno) {
	n := letters.Run(s, letters.Inner)
	if n > api.MaxName {
		return Token{}, api.ErrLong
	}
	return Token{Kind: kind, Text: s[:n]}, api.OK
}

func number(s string) (Token, api.Errno) {
	text := s[:letters.Run(s, letters.Digit)]
	n, e := value(text)
	return Token{Kind: Number, Text: text, N: n}, e
}

// global holds the whole form first: a ? with less behind it begins no token, whatever its numbers are.
func global(s string) (Token, api.Errno) {
	left := 1 + letters.Run(s[1:], letters.Digit)
	if left == 1 || left == len(s) || s[left] != '_' {
		return Token{}, api.ErrChar
	}
	right := left + 1 + letters.Run(s[left+1:], letters.Digit)
	if right == left+1 {
		return Token{}, api.ErrChar
	}
	node, e := value(s[1:left])
	if e != api.OK {
		return Token{}, e
	}
	n, e := value(s[left+1 : right])
	return Token{Kind: Global, Text: s[:right], N: n, Node: node}, e
}

// value stops as soon as the number is too great, so that it never goes round.
func value(digits string) (int, api.Errno) {
	if len(digits) > 1 && digits[0] == '0' {
		return 0, api.ErrNumber
	}
	n := 0
	for i := range len(digits) {
		n = 10*n + int(digits[i]-'0')
		if n > greatest {
			return 0, api.ErrNumber
		}
	}
	return n, api.OK
}

func sign(s string) (Token, api.Errno) {
	for _, text := range signs {
		if strings.HasPrefix(s, text) {
			return Token{Kind: Sign, Text: text}, api.OK
		}
	}
	return Token{}, api.ErrChar
}
