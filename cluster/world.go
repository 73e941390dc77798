package cluster

import (
	"slices"

	"purlin/api"
	"purlin/durable"
	"purlin/net"
	"purlin/node"
)

// world is the network with the nodes round it, and what has happened. What stands in commits and submitted is never changed in place, so that forks may hold the same.
type world struct {
	*net.Net
	nodes     []*durable.Durable
	commits   []api.Commit
	submitted []api.Goal
}

func newWorld(p api.Program, nodes, budget int) (world, api.Errno) {
	first, e := durable.New(p, 0, nodes, budget)
	if e != api.OK {
		return world{}, e
	}
	// What the first node takes the others and the network take.
	w := world{nodes: []*durable.Durable{first}}
	w.Net, _ = net.New(nodes)
	for i := 1; i < nodes; i++ {
		other, _ := durable.New(p, i, nodes, budget)
		w.nodes = append(w.nodes, other)
	}
	return w, api.OK
}

func (w *world) isNode(i int) bool { return i >= 0 && i < len(w.nodes) }

// happened notes what a node did, and lets wait what it sent.
func (w *world) happened(done node.Done, sent []api.Datagram, e api.Errno) api.Errno {
	if e != api.OK {
		return e
	}
	w.commits = append(w.commits, done.Commit...)
	return w.Send(sent...)
}

// began notes the goal of a Submit, if that has happened: each gives one unit out, and its goal stands last in the queue.
func (w *world) began() {
	first := w.nodes[0].Node()
	if _, units := first.Collected(); units > len(w.submitted) {
		queue := first.Queue()
		w.submitted = append(w.submitted, queue[len(queue)-1])
	}
}

func (w *world) fork() world {
	f := world{Net: w.Net.Fork(), commits: slices.Clone(w.commits), submitted: slices.Clone(w.submitted)}
	for _, n := range w.nodes {
		f.nodes = append(f.nodes, n.Fork())
	}
	return f
}
