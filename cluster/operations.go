package cluster

import (
	"purlin/api"
	"purlin/syntax"
)

// operation is what a kind of operations does.
type operation struct {
	subject func(*world, api.Op) api.Errno // why that of which it is may not be
	deed    func(*world, api.Op) api.Errno
	records bool // there is a record, which can be cut
}

func operations() map[api.OpKind]operation {
	return map[api.OpKind]operation{
		api.DoStep:    {subject: (*world).ofNode, deed: (*world).step, records: true},
		api.DoCollect: {subject: (*world).ofNode, deed: (*world).collect, records: true},
		api.DoSubmit:  {subject: (*world).ofFirst, deed: (*world).submit, records: true},
		api.Deliver:   {subject: (*world).ofDatagram, deed: (*world).deliver, records: true},
		api.Drop:      {subject: (*world).ofDatagram, deed: (*world).drop},
		api.Double:    {subject: (*world).ofDatagram, deed: (*world).double},
		api.Resend:    {subject: (*world).ofNode, deed: (*world).resend},
		api.Crash:     {subject: (*world).ofNode, deed: (*world).crash},
		api.Restart:   {subject: (*world).ofNode, deed: (*world).restart},
	}
}

func (w *world) do(o api.Op) api.Errno {
	operation, some := operations()[o.Kind]
	if !some {
		return api.ErrForm
	}
	if e := operation.subject(w, o); e != api.OK {
		return e
	}
	if o.Cut < 0 || o.Cut > 0 && !operation.records {
		return api.ErrForm
	}
	return operation.deed(w, o)
}

func (w *world) ofNode(o api.Op) api.Errno {
	if !w.isNode(o.Node) {
		return api.ErrRange
	}
	return api.OK
}

func (w *world) ofFirst(o api.Op) api.Errno {
	if o.Node != 0 {
		return api.ErrRange
	}
	return api.OK
}

func (w *world) ofDatagram(o api.Op) api.Errno {
	if o.K < 0 || o.K >= w.Len() {
		return api.ErrNone
	}
	return api.OK
}

func (w *world) event(o api.Op, e api.Event) api.Errno {
	return w.happened(w.nodes[o.Node].Do(e, o.Cut))
}

func (w *world) step(o api.Op) api.Errno { return w.event(o, api.Event{Kind: api.Step}) }

func (w *world) collect(o api.Op) api.Errno { return w.event(o, api.Event{Kind: api.Collect}) }

func (w *world) submit(o api.Op) api.Errno {
	if !w.nodes[o.Node].Up() {
		return api.ErrDown
	}
	goal, _, e, _ := syntax.Term(o.Text)
	if e != api.OK {
		return e
	}
	if e = w.event(o, api.Event{Kind: api.Submit, Term: goal}); e == api.OK {
		w.began()
	}
	return e
}

// deliver: the datagram is out of the network whatever its node makes of it.
func (w *world) deliver(o api.Op) api.Errno {
	d, _ := w.Deliver(o.K) // that it waits was asked ahead
	return w.happened(w.nodes[d.To].Take(d, o.Cut))
}

func (w *world) drop(o api.Op) api.Errno { return w.Drop(o.K) }

func (w *world) double(o api.Op) api.Errno { return w.Double(o.K) }

func (w *world) resend(o api.Op) api.Errno {
	l, e := w.nodes[o.Node].Resend()
	if e != api.OK {
		return e
	}
	return w.Send(l...)
}

func (w *world) crash(o api.Op) api.Errno { return w.nodes[o.Node].Crash() }

func (w *world) restart(o api.Op) api.Errno {
	_, e := w.nodes[o.Node].Restart()
	return e
}
