package refs_test

import (
	"fmt"
	"maps"
	"math/rand"
	"slices"
	"testing"

	"purlin/api"
	"purlin/refs"
)

// message is one from node to node: a term's variables (api.Ship), or that a variable is added or released.
type message struct {
	tag   api.Tag
	vars  []api.Name
	count int // api.Add: who holds it, too; api.Release: how often it was let go
}

type way struct{ from, to int }

// world is nodes that use tables as chapter 16 says, over ways that keep the order.
type world struct {
	t      *testing.T
	tables []*refs.Table
	ways   map[way][]message
}

func newWorld(t *testing.T, nodes int) *world {
	w := &world{t: t, ways: map[way][]message{}}
	for k := range nodes {
		w.tables = append(w.tables, made(t, k, nodes))
	}
	return w
}

func (w *world) fork() *world {
	f := &world{t: w.t, ways: maps.Clone(w.ways)}
	for _, r := range w.tables {
		f.tables = append(f.tables, r.Fork())
	}
	return f
}

// put lays a message behind a way's others, in room of its own, as forks share the rows.
func (w *world) put(from, to int, m message) {
	on := way{from, to}
	w.ways[on] = append(slices.Clone(w.ways[on]), m)
}

// may tells whether a node has a variable that it could send.
func (w *world) may(node int, v api.Name) bool {
	return v.Node == node || w.tables[node].Held(v) > 0
}

// send sends a term with variables: those of the sender's own are counted, those of third nodes are told to their owners first.
func (w *world) send(from, to int, vars ...api.Name) {
	w.t.Helper()
	var own []api.Name
	for _, v := range vars {
		if v.Node == from {
			own = append(own, v)
		} else if v.Node != to {
			w.put(from, v.Node, message{api.Add, []api.Name{v}, to})
		}
	}
	is(w.t, w.tables[from].Sent(to, own...), api.OK)
	w.put(from, to, message{api.Ship, vars, 0})
}

func (w *world) free(node int, v api.Name) {
	if n := w.tables[node].Free(v); n > 0 {
		w.put(node, v.Node, message{api.Release, []api.Name{v}, n})
	}
}

// deliver lets the first message of a way come.
func (w *world) deliver(on way) {
	w.t.Helper()
	m := w.ways[on][0]
	w.ways[on] = w.ways[on][1:]
	if len(w.ways[on]) == 0 {
		delete(w.ways, on)
	}
	r := w.tables[on.to]
	switch m.tag {
	case api.Ship:
		is(w.t, r.Got(m.vars...), api.OK)
	case api.Add:
		is(w.t, r.Added(m.vars[0], m.count), api.OK)
	case api.Release:
		is(w.t, r.Released(m.vars[0], on.from, m.count), api.OK)
	}
}

// busy are the ways with messages, in one order.
func (w *world) busy() []way {
	return slices.SortedFunc(maps.Keys(w.ways), func(a, b way) int { return (a.from-b.from)*10 + a.to - b.to })
}

func times(l []api.Name, v api.Name) (n int) {
	for _, x := range l {
		if x == v {
			n++
		}
	}
	return n
}

// underWay is what is on its way of a variable and a node: references to be added, that come to it, and to be released.
func (w *world) underWay(v api.Name, node int) (adds, comes, releases int) {
	for on, row := range w.ways {
		for _, m := range row {
			switch n := times(m.vars, v); {
			case m.tag == api.Add && m.count == node:
				adds += n
			case m.tag == api.Ship && on.to == node:
				comes += n
			case m.tag == api.Release && on.from == node:
				releases += n * m.count
			}
		}
	}
	return adds, comes, releases
}

func (w *world) inMessages(v api.Name) (n int) {
	for _, row := range w.ways {
		for _, m := range row {
			n += times(m.vars, v)
		}
	}
	return n
}

// holds is E5, and P16.6, of a variable.
func (w *world) holds(v api.Name) {
	w.t.Helper()
	owner, everywhere := w.tables[v.Node], w.inMessages(v)
	for k, r := range w.tables {
		if k == v.Node {
			continue
		}
		counted := 0
		for _, c := range owner.Exports() {
			if c.Var == v && c.Node == k {
				counted = c.Times
			}
		}
		adds, comes, releases := w.underWay(v, k)
		if counted+adds != r.Held(v)+comes+releases {
			w.t.Fatalf("%v at %d: counted %d, to be added %d; held %d, to come %d, to be released %d; ways %v", v, k, counted, adds, r.Held(v), comes, releases, w.ways)
		}
		everywhere += r.Held(v)
	}
	if !owner.Exported(v) && everywhere > 0 {
		w.t.Fatalf("%v has no count, and is held or under way %d times: %v", v, everywhere, w.ways)
	}
}

// settle lets all come, then lets all go: nothing is counted any more.
func (w *world) settle(r *rand.Rand, vars []api.Name) {
	w.t.Helper()
	for range 2 {
		for l := w.busy(); len(l) > 0; l = w.busy() {
			w.deliver(l[r.Intn(len(l))])
		}
		for node, table := range w.tables {
			for _, c := range table.Imports() {
				w.free(node, c.Var)
			}
		}
		for _, v := range vars {
			w.holds(v)
		}
	}
	for _, table := range w.tables {
		if n, m := table.Len(); n != 0 || m != 0 || len(w.ways) > 0 {
			w.t.Fatal(table.Exports(), table.Imports(), w.ways)
		}
	}
}

// TestNothingIsLetGoTooEarly is E5 and P16.6 over runs by chance, with as many nodes as may be.
func TestNothingIsLetGoTooEarly(t *testing.T) {
	count := map[string]int{}
	for seed := range 120 {
		r := rand.New(rand.NewSource(int64(seed)))
		nodes := 2 + seed%(api.MaxNodes-1)
		w := newWorld(t, nodes)
		var vars []api.Name
		for k := range nodes {
			vars = append(vars, name(k, 0), name(k, 1))
		}
		for range 200 {
			from, v := r.Intn(nodes), vars[r.Intn(len(vars))]
			to := (from + 1 + r.Intn(nodes-1)) % nodes
			switch what := r.Intn(10); {
			case what < 3:
				var l []api.Name
				for range r.Intn(4) {
					if x := vars[r.Intn(len(vars))]; w.may(from, x) {
						l = append(l, x)
					}
				}
				w.send(from, to, l...)
				count["send"]++
			case what < 5:
				count[fmt.Sprint("free ", min(w.tables[from].Held(v), 2))]++
				w.free(from, v)
			case len(w.ways) > 0:
				l := w.busy()
				on := l[r.Intn(len(l))]
				count[fmt.Sprint("deliver ", w.ways[on][0].tag)]++
				w.deliver(on)
			}
			for _, v := range vars {
				w.holds(v)
			}
			for _, table := range w.tables {
				for _, c := range table.Exports() {
					if c.Times < 0 {
						count["below 0"]++
					}
				}
			}
		}
		w.settle(r, vars)
	}
	for _, what := range []string{
		"send", "free 0", "free 1", "free 2", "below 0",
		fmt.Sprint("deliver ", api.Ship), fmt.Sprint("deliver ", api.Add), fmt.Sprint("deliver ", api.Release),
	} {
		if count[what] < 50 {
			t.Errorf("%s: %d times alone", what, count[what])
		}
	}
}

// all goes through every world to which one leads, with so many messages left to be sent that carry x.
func (w *world) all(x api.Name, left int, met map[string]int) {
	w.t.Helper()
	state := fmt.Sprint(left, w.ways)
	for _, r := range w.tables {
		state += fmt.Sprint(r.Exports(), r.Imports())
	}
	if met[state]++; met[state] > 1 {
		return
	}
	w.holds(x)
	if len(w.ways) == 0 {
		w.quiet(x)
	}
	for on := range w.ways {
		f := w.fork()
		f.deliver(on)
		f.all(x, left, met)
	}
	for from := range w.tables {
		if w.tables[from].Held(x) > 0 {
			f := w.fork()
			f.free(from, x)
			f.all(x, left, met)
		}
		for to := range w.tables {
			if left > 0 && to != from && w.may(from, x) {
				f := w.fork()
				f.send(from, to, x)
				f.all(x, left-1, met)
			}
		}
	}
}

// quiet is what must be when nothing is under way: the owner counts just what others hold.
func (w *world) quiet(x api.Name) {
	w.t.Helper()
	var held []refs.Count
	for k, r := range w.tables {
		if n := r.Held(x); n > 0 {
			held = append(held, refs.Count{Var: x, Node: k, Times: n})
		}
	}
	if got := w.tables[x.Node].Exports(); !slices.Equal(got, held) {
		w.t.Fatalf("Exports: %v, held %v", got, held)
	}
}

// TestAllShortRuns is E5 and P16.6 of one variable in every run of a few messages among three nodes, and among four.
func TestAllShortRuns(t *testing.T) {
	for nodes, left := range map[int]int{2: 8, 3: 5, 4: 4} {
		met := map[string]int{}
		newWorld(t, nodes).all(name(1, 7), left, met)
		if len(met) < 1000 {
			t.Errorf("%d nodes: %d worlds alone", nodes, len(met))
		}
	}
}
