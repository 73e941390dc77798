// Package lex cuts texts into tokens. See ../../shared/doc/02-lex.md.
package lex

import (
	"slices"
	"strings"

	"purlin/api"
)

// Kind is a kind of tokens.
type Kind uint8

// Tokens.
const (
	End Kind = iota
	Name
	Variable
	Number
	Global
	Sign
)

// Token is a token: its text, and where it begins. Of a Number N is its value; of a Global Node and N are its numbers.
type Token struct {
	Kind Kind
	Text string
	N    int
	Node int
	At   int
}

// Next is the token at a place, or behind blanks and remarks; and the place behind it.
func Next(s string, at int) (Token, int, api.Errno) {
	if at < 0 || at > len(s) {
		return Token{}, 0, api.ErrRange
	}
	at += gap(s[at:])
	t, e := first(s[at:])
	if e != api.OK {
		return Token{}, at, e
	}
	t.At = at
	return t, at + len(t.Text), api.OK
}

// All are the tokens of a text, an End the last one; or the place of what is none.
func All(s string) ([]Token, api.Errno, int) {
	var l []Token
	for f := range walk(s) {
		if f.e != api.OK {
			return nil, f.e, f.at
		}
		l = append(l, f.token)
	}
	return l, api.OK, 0
}

// Line is the line, and the column in it, of a place.
func Line(s string, at int) (int, int) {
	ahead := s[:min(max(at, 0), len(s))]
	return 1 + strings.Count(ahead, "\n"), len(ahead) - strings.LastIndexByte(ahead, '\n')
}

// Join is tokens as a text.
func Join(l ...Token) string {
	var texts []string
	for _, t := range l {
		if t.Text != "" {
			texts = append(texts, t.Text)
		}
	}
	return strings.Join(texts, " ")
}

// Count is how many tokens of some kinds a text has.
func Count(s string, kinds ...Kind) int {
	n := 0
	for f := range walk(s) {
		if f.e != api.OK {
			return 0
		}
		if slices.Contains(kinds, f.token.Kind) {
			n++
		}
	}
	return n
}
