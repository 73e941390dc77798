package fair

import (
	"iter"
	"slices"

	"purlin/api"
	"purlin/cluster"
	"purlin/link"
	"purlin/node"
	"purlin/wire"
)

// place is a node with its link as they stand, or, if it is down, as a Restart would make them.
type place struct {
	*node.Node
	*link.Link
	number int
	up     bool
}

func placeOf(c *cluster.Cluster, i int) (p place, some bool) {
	d := c.Node(i)
	if d == nil {
		return place{}, false
	}
	up := d.Up()
	d.Restart() // a fork alone: so its records are done again once, not for the node and for the link
	return place{d.Node(), d.Link(), i, up}, true
}

func (p place) isDown() bool { return !p.up }

func (p place) hasGoals() bool { return len(p.Queue()) > 0 }

func (p place) hasWaiting() bool { return len(p.Waiting()) > 0 }

func (p place) canStep() bool { return p.Left() > 0 && p.hasGoals() }

func (p place) hasSent() bool { return len(p.Outbox()) > 0 }

// sight is a whole cluster, seen at once. It stays as it was, so that a round may be done while it is yielded.
type sight struct {
	places []place
	waits  int // datagrams
}

func sightOf(c *cluster.Cluster) sight {
	s := sight{waits: len(c.Pending())}
	for p, some := placeOf(c, 0); some; p, some = placeOf(c, len(s.places)) {
		s.places = append(s.places, p)
	}
	return s
}

// some tells whether what is asked holds of a node.
func (s sight) some(asked func(place) bool) bool { return slices.ContainsFunc(s.places, asked) }

func (s sight) quiet() bool { return !s.some(place.canStep) && !s.some(s.hasWork) }

// hasWork tells whether a node has sent a message that was not taken and can bring something to be done.
func (s sight) hasWork(p place) bool {
	return slices.ContainsFunc(p.Outbox(), func(d api.Datagram) bool {
		return d.Seq >= s.places[d.To].Next(p.number) && isWork(d.Bytes)
	})
}

func isWork(b []byte) bool {
	m, _, _ := wire.Decode(b)
	return m.Tag == api.Read || m.Tag == api.Value || m.Tag == api.Ship
}

// turn is an operation that each node does of which what is asked holds.
type turn struct {
	kind  api.OpKind
	asked func(place) bool
}

// round yields the operations of one, in order.
func (s sight) round() iter.Seq[api.Op] {
	return func(yield func(api.Op) bool) {
		if s.turns(yield, turn{api.Restart, place.isDown}) && s.turns(yield, turn{api.DoStep, place.canStep}, turn{api.Resend, place.hasSent}) {
			s.deliveries(yield)
		}
	}
}

// turns yields, node by node, what each one does; false: no more is wanted.
func (s sight) turns(yield func(api.Op) bool, l ...turn) bool {
	for _, p := range s.places {
		for _, t := range l {
			if t.asked(p) && !yield(api.Op{Kind: t.kind, Node: p.number}) {
				return false
			}
		}
	}
	return true
}

// deliveries yields as many as datagrams wait, and stand in outboxes.
func (s sight) deliveries(yield func(api.Op) bool) {
	n := s.waits
	for _, p := range s.places {
		n += len(p.Outbox())
	}
	for n > 0 && yield(api.Op{Kind: api.Deliver}) {
		n--
	}
}
