// Package copies makes copies that share no list with what they are made of.
package copies

import (
	"slices"

	"purlin/api"
)

// Terms are terms in memory of their own.
func Terms(l []api.Term) []api.Term {
	own := slices.Clone(l)
	for i, t := range own {
		own[i] = slices.Clone(t)
	}
	return own
}

// Goals are goals with terms of their own.
func Goals(l []api.Goal) []api.Goal {
	own := slices.Clone(l)
	for i, g := range own {
		own[i].Term = slices.Clone(g.Term)
	}
	return own
}

// Commits are commits with lists of their own.
func Commits(l []api.Commit) []api.Commit {
	own := slices.Clone(l)
	for i, c := range own {
		own[i] = Commit(c)
	}
	return own
}

// Commit is a commit with lists of its own.
func Commit(c api.Commit) api.Commit {
	c.Goal.Term = slices.Clone(c.Goal.Term)
	c.Fresh = slices.Clone(c.Fresh)
	c.Bound = slices.Clone(c.Bound)
	for i, b := range c.Bound {
		c.Bound[i].Term = slices.Clone(b.Term)
	}
	c.Goals = Goals(c.Goals)
	return c
}

// Program is a program with clauses of its own.
func Program(p api.Program) api.Program {
	own := slices.Clone(p)
	for i, c := range own {
		own[i].Head = slices.Clone(c.Head)
		own[i].Guards = Terms(c.Guards)
		own[i].Body = Terms(c.Body)
	}
	return own
}

// Amount is an amount with Bits of its own.
func Amount(a api.Amount) api.Amount {
	a.Bits = slices.Clone(a.Bits)
	return a
}

// Message is a message with a term and an amount of its own.
func Message(m api.Message) api.Message {
	m.Term = slices.Clone(m.Term)
	m.Credit = Amount(m.Credit)
	return m
}
