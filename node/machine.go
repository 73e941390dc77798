package node

import (
	"slices"

	"purlin/api"
	"purlin/credit"
	"purlin/heap"
	"purlin/owner"
	"purlin/queue"
	"purlin/refs"
)

// first is the node at which goals are submitted, and to which credit goes back.
const first = 0

// place is which node it is, of how many.
type place struct{ own, nodes int }

func (p place) isNode(k int) bool { return k >= 0 && k < p.nodes }

func (p place) isOther(k int) bool { return p.isNode(k) && k != p.own }

// askings and holdings are tables under names of their own, as both are a Table in their packages.
type askings struct{ *owner.Table }

type holdings struct{ *refs.Table }

// report is what a node last told of itself: how many goals wait there, and flags.
type report struct{ waiting, flags int }

// Flags of reports.
const (
	hasFailed = 1
	isSpent   = 2
)

// purse is credit: what the node has; and, of the first node, what came back of how many units, and with which reports.
type purse struct {
	credit    api.Amount
	collected api.Amount
	units     int
	reports   [api.MaxNodes]report
}

// machine is what a node is: its queue, its map and its tables stand inside. Program, holdings and amounts are never changed in place, so that a fork may hold the same ones.
type machine struct {
	place
	*queue.Queue
	*heap.Heap
	askings
	holdings
	purse
	program  api.Program
	nextGoal int
	nextVar  int
	left     int
	failed   bool
	roots    []api.Name
}

func newMachine(p place, program api.Program, held *refs.Table, budget int) machine {
	return machine{
		place:    p,
		Queue:    queue.New(),
		Heap:     heap.New(),
		askings:  askings{owner.New()},
		holdings: holdings{held},
		program:  program,
		left:     budget,
	}
}

// fork has roots of its own, as they grow in place.
func (m machine) fork() machine {
	m.Queue = m.Queue.Fork()
	m.Heap = m.Heap.Fork()
	m.askings.Table = m.askings.Fork()
	m.roots = slices.Clone(m.roots)
	return m
}

// rests tells whether no goal can go on: none is there, or nothing is left.
func (m machine) rests() bool {
	ready, _ := m.Len()
	return ready == 0 || m.left == 0
}

// report is what the node tells of itself.
func (m machine) report() report {
	ready, waiting := m.Len()
	r := report{waiting: waiting}
	if m.failed {
		r.flags += hasFailed
	}
	if m.left == 0 && ready > 0 {
		r.flags += isSpent
	}
	return r
}

// verdict is what the first node knows by itself and by the others' reports.
func (m machine) verdict() api.Verdict {
	all, flags := 0, 0
	for _, r := range append(m.reports[:], m.report()) {
		all += r.waiting
		flags |= r.flags
	}
	switch {
	case flags&hasFailed != 0:
		return api.Failed
	case !m.rests() || credit.Compare(m.collected, credit.Units(m.units)) != 0:
		return api.Running
	case flags&isSpent != 0:
		return api.OutOfFuel
	case all == 0:
		return api.Terminated
	}
	return api.Suspended
}
