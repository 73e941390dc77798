package node

import (
	"slices"

	"purlin/api"
	"purlin/heap"
	"purlin/term"
	"purlin/wire"
)

// receive takes a message of a node.
func (v *event) receive(from int, b []byte) api.Errno {
	if !v.isOther(from) {
		return api.ErrRange
	}
	m, e, _ := wire.Decode(b)
	if e != api.OK {
		return api.ErrBytes
	}
	if e := v.refusal(m); e != api.OK {
		return e
	}
	if e := v.takeCredit(m); e != api.OK {
		return e
	}
	v.take(from, m)
	return api.OK
}

// refusal is the error of a message that may not be taken.
func (v *event) refusal(m api.Message) api.Errno {
	_, known := v.Value(m.Var)
	switch {
	case !v.isKnown(m):
		return api.ErrForm
	case !v.isRightOwner(m):
		return api.ErrOwner
	case m.Tag == api.Value && !known:
		// Of a variable that has no value here, a map without any says what this one will.
		return heap.New().Bind(m.Var, m.Term)
	}
	return api.OK
}

// isKnown tells whether all that a message names is there. A name or a count that it has not is 0.
func (v *event) isKnown(m api.Message) bool {
	names := term.Vars(m.Term)
	switch m.Tag {
	case api.Read, api.Value, api.Add, api.Release:
		names = append(names, m.Var)
	}
	return v.isNode(m.Goal.Node) && !slices.ContainsFunc(names, v.isNobodys) && (m.Tag != api.Add || v.isOther(m.Count))
}

// isNobodys tells of a variable that no node can have made.
func (v *event) isNobodys(x api.Name) bool {
	return !v.isNode(x.Node) || x.Node == v.own && x.Number >= v.nextVar
}

func (v *event) isRightOwner(m api.Message) bool {
	switch m.Tag {
	case api.Read, api.Add, api.Release:
		return m.Var.Node == v.own
	case api.Value:
		return m.Var.Node != v.own
	case api.Return:
		return v.own == first
	}
	return true
}

func (v *event) takeCredit(m api.Message) api.Errno {
	if m.Tag == api.Return {
		return v.gather(m.Credit)
	}
	return v.gain(m.Credit)
}

// take does what a message asks for that may be taken; its credit is taken already.
func (v *event) take(from int, m api.Message) {
	value, known := v.Value(m.Var)
	if vars := wire.Carries(m); len(vars) > 0 {
		v.counts().Got(vars...)
	}
	switch m.Tag {
	case api.Read:
		if known {
			v.tell(from, m.Var, value)
			return
		}
		v.later(func() { v.Ask(m.Var, from) })
	case api.Value:
		v.later(func() { v.askings.Got(m.Var) })
		if !known {
			v.bind(m.Var, m.Term)
		}
	case api.Ship:
		v.put(api.Goal{Name: m.Goal, Term: m.Term})
	case api.Add:
		v.counts().Added(m.Var, m.Count)
	case api.Release:
		v.counts().Released(m.Var, from, m.Count)
	case api.Return:
		v.reports[from] = report{waiting: m.Count, flags: m.Flags}
	}
}
