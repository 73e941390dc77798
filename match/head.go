package match

import (
	"slices"

	"purlin/api"
	"purlin/arith"
	"purlin/heap"
	"purlin/term"
)

const (
	local   = -1      // the Node of a clause's variables
	numbers = 1 << 20 // below it are the numbers for which a head alone has room
)

// localsOf is for how many variables a clause has room.
func localsOf(c api.Clause) int { return min(max(c.Locals, 0), api.MaxLocals) }

// roomOf is for how many variables a head alone has room.
func roomOf(head api.Term) int {
	room := 0
	for _, v := range term.Vars(head) {
		if v.Node == local && v.Number < numbers {
			room = max(room, v.Number+1)
		}
	}
	return room
}

// alike tells whether two have one name and arity, or are one number or variable: of right terms by the first cells as wholes.
func alike(a, b api.Term) bool { return len(a) > 0 && len(b) > 0 && a[0] == b[0] }

// withoutHead is what comes of a goal, followed, whatever it is tried with; false: that hangs on the head.
func withoutHead(goal api.Term) (t Tried, known bool) {
	switch {
	case !term.Global(goal) || goal[0].Kind == api.Int:
		return failed(), true
	case goal[0].Kind == api.Var:
		var w waiting
		w.wait(goal[0].Var)
		return w.none(), true
	}
	return Tried{}, false
}

func isWrong(t api.Term) bool { return !term.Right(t) }

// try holds a head that has room for so many variables, and then guards, against a goal.
func try(h *heap.Heap, goal, head api.Term, room int, guards ...api.Term) Tried {
	goal = h.Deref(goal)
	if isWrong(head) || slices.ContainsFunc(guards, isWrong) {
		return failed()
	}
	if t, known := withoutHead(goal); known {
		return t
	}
	m := matching{h: h, room: room, took: map[int]api.Term{}}
	switch {
	case !alike(head, goal) || !m.arguments(head, goal):
		return failed()
	case m.waits():
		return m.none()
	}
	return m.commit(guards)
}

// matching is a head that is held against a goal: what its variables took, and for what it waits.
type matching struct {
	waiting
	h    *heap.Heap
	room int
	took map[int]api.Term
}

// arguments holds those of a pattern against those of a term of the same name and arity, from the left; false: one fails.
func (m *matching) arguments(pattern, t api.Term) bool {
	for at, place := 1, 1; at < len(pattern); {
		end, behind := term.End(pattern, at), term.End(t, place)
		if !m.hold(pattern[at:end], t[place:behind]) {
			return false
		}
		at, place = end, behind
	}
	return true
}

// hold holds a pattern against a part of the goal; false: it fails.
func (m *matching) hold(pattern, part api.Term) bool {
	if pattern[0].Kind == api.Var {
		return m.take(pattern[0].Var, part)
	}
	if part[0].Kind == api.Var {
		part = m.h.Deref(part)
	}
	if part[0].Kind == api.Var {
		m.wait(part[0].Var)
		return true
	}
	return alike(pattern, part) && m.arguments(pattern, part)
}

// take gives a variable of the head the goal's part as it stands.
func (m *matching) take(v api.Name, part api.Term) bool {
	_, again := m.took[v.Number]
	if v.Node != local || v.Number >= m.room || again {
		return false
	}
	m.took[v.Number] = slices.Clone(part)
	return true
}

// commit asks the guards of a head that commits.
func (m *matching) commit(guards []api.Term) Tried {
	locals := make([]api.Term, m.room)
	for number := range locals {
		locals[number] = m.took[number]
	}
	asked, e := putAll(guards, locals)
	if e != api.OK {
		return failed()
	}
	o, names := arith.Guards(m.h, asked...)
	if o == api.Commits {
		return Tried{Outcome: o, Clause: noClause, Locals: locals}
	}
	m.wait(names...)
	return m.none()
}
