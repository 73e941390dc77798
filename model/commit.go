package model

import (
	"slices"

	"purlin/api"
	"purlin/term"
)

// demand is one thing that a commit must be, and the error of one that is not.
type demand struct {
	e   api.Errno
	met func(c api.Commit) bool
}

// demands are in the order in which they are tried: each leans on those ahead of it.
func (m *Model) demands() []demand {
	return []demand{
		{api.ErrGoal, func(c api.Commit) bool {
			_, there := m.goals[c.Goal.Name]
			return there
		}},
		{api.ErrTrace, func(c api.Commit) bool { return term.Equal(c.Goal.Term, m.goals[c.Goal.Name]) }},
		{api.ErrTrace, func(c api.Commit) bool { return m.isNode(c.Node) }},
		{api.ErrTrace, func(c api.Commit) bool { return areNew(c.Node, m.goalNames, namesOf(c.Goals)) }},
		{api.ErrTrace, func(c api.Commit) bool { return areNew(c.Node, m.varNames, c.Fresh) }},
		{api.ErrTrace, func(c api.Commit) bool {
			t := m.values.Deref(c.Goal.Term)
			return kindOf(t, m.kinds()).reduces(t, c)
		}},
	}
}

func namesOf(l []api.Goal) []api.Name {
	names := make([]api.Name, len(l))
	for i, g := range l {
		names[i] = g.Name
	}
	return names
}

// areNew tells whether a node may give these names to what has none yet.
func areNew(node int, old used, l []api.Name) bool {
	given := used{}
	for _, n := range l {
		if n.Node != node || n.Number < 0 || old.has(n) || given.has(n) {
			return false
		}
		given.add(n)
	}
	return true
}

// noClause stands where a reduction needs none.
const noClause = -1

// shape is what a commit tells beside its node and its goal: of its lists how long they are. So what a reduction does not name is asked for, too.
type shape struct {
	fails               bool
	clause              int
	fresh, bound, goals int
}

func shapeOf(c api.Commit) shape {
	return shape{fails: c.Fails, clause: c.Clause, fresh: len(c.Fresh), bound: len(c.Bound), goals: len(c.Goals)}
}

func tellsNothing(c api.Commit) bool { return shapeOf(c) == shape{clause: noClause} }

func tellsFails(c api.Commit) bool { return shapeOf(c) == shape{clause: noClause, fails: true} }

func tellsBound(c api.Commit) bool { return shapeOf(c) == shape{clause: noClause, bound: 1} }

// tellsGoals tells whether a commit has just goals with these terms, in order.
func tellsGoals(c api.Commit, l ...api.Term) bool {
	return shapeOf(c) == shape{clause: noClause, goals: len(l)} && haveTerms(c.Goals, l)
}

func haveTerms(l []api.Goal, terms []api.Term) bool {
	return slices.EqualFunc(l, terms, func(g api.Goal, t api.Term) bool { return term.Equal(g.Term, t) })
}
