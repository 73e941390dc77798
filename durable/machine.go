package durable

import (
	"purlin/api"
	"purlin/journal"
	"purlin/link"
	"purlin/node"
	"purlin/wire"
)

// machine is what events change: the node and the link stand inside.
type machine struct {
	*node.Node
	*link.Link
}

func (m machine) fork() machine { return machine{m.Node.Fork(), m.Link.Fork()} }

// do lets an event happen: what the node did, and what is sent. With an error nothing happens.
func (m machine) do(e api.Event) (node.Done, []api.Datagram) {
	done := m.Do(e)
	if done.Errno != api.OK {
		return done, nil
	}
	if e.Kind == api.Receive {
		m.Take(e.From)
	}
	var sent []api.Datagram
	for _, out := range done.Sent {
		if b, errno := wire.Encode(out.Message); errno == api.OK {
			d, _ := m.Send(out.To, b) // to another node, and not too long: so it has no error
			sent = append(sent, d)
		}
	}
	return done, sent
}

// inside is a durable's journal and, as long as it is up, its machine.
type inside struct {
	*journal.Log
	*machine
}

func (i inside) isUp() bool { return i.machine != nil }

// write writes an event's record, or as much of it as a cut leaves: whether it is complete.
func (i inside) write(payload []byte, cut int) bool {
	if cut > 0 {
		complete, _ := i.Cut(payload, cut-1)
		return complete
	}
	return i.Append(payload) == api.OK
}

// events are those of the complete records.
func (i inside) events() []api.Event {
	var l []api.Event
	for _, payload := range i.Payloads() {
		e, _ := Decode(payload) // what is there was encoded, so it has no error
		l = append(l, e)
	}
	return l
}

// again hands all events of the complete records to what does them.
func (i inside) again(do func(e api.Event) (node.Done, []api.Datagram)) {
	for _, e := range i.events() {
		do(e)
	}
}
