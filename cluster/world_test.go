package cluster_test

import (
	"fmt"
	"maps"
	"math/rand"
	"slices"
	"strconv"
	"testing"

	"purlin/api"
	"purlin/cluster"
	"purlin/model"
	"purlin/term"
	"purlin/trace"
	"purlin/wire"
)

// machine is the abstract one behind all commits: they are a run (P21.3, E1), in which nothing is done or bound twice, each by its owner (E2).
func machine(t *testing.T, c *cluster.Cluster, p api.Program, nodes int) *model.Model {
	t.Helper()
	l := c.Commits()
	if e, n := trace.Check(p, nodes, c.Submitted(), l...); e != api.OK || n != len(l) {
		t.Fatalf("no run: %v, commit %d: %v", e, n, l)
	}
	if v, twice := trace.Twice(l...); twice {
		t.Fatalf("%v twice", v)
	}
	if v, foreign := trace.Owners(l...); foreign {
		t.Fatalf("%v bound by another node", v)
	}
	m, e := trace.After(p, nodes, c.Submitted(), l...)
	if e != api.OK {
		t.Fatal(e)
	}
	return m
}

// valuesHold is E2 and E4: what a node knows is what the machine says, and descends; what the roots have they have (E3).
func valuesHold(t *testing.T, c *cluster.Cluster, m *model.Model, nodes int) {
	t.Helper()
	says := m.Heap()
	for i := range nodes {
		n := c.Node(i).Node()
		knows := n.Heap()
		for _, b := range knows.Bindings() {
			if u, ok := says.Value(b.Var); !ok || !term.Equal(u, b.Term) {
				t.Fatalf("node %d knows %v; it is %v", i, b, u)
			}
			if b.Term[0].Kind == api.Var && !term.Less(b.Term[0].Var, b.Var) {
				t.Fatalf("%v does not descend", b)
			}
		}
		for _, v := range n.Roots() {
			_, has := knows.Value(v)
			if _, want := says.Value(v); has != want {
				t.Fatalf("root %v: %v", v, has)
			}
		}
	}
}

// underWay are the messages that were sent and not taken: by whom, to whom.
func underWay(t *testing.T, c *cluster.Cluster, nodes int) map[[2]int][]api.Message {
	t.Helper()
	ways := map[[2]int][]api.Message{}
	for i := range nodes {
		for _, d := range c.Node(i).Link().Outbox() {
			if d.Seq < c.Node(d.To).Link().Next(i) {
				continue
			}
			m, e, _ := wire.Decode(d.Bytes)
			if e != api.OK {
				t.Fatal(d, e)
			}
			ways[[2]int{i, d.To}] = append(ways[[2]int{i, d.To}], m)
		}
	}
	return ways
}

// refsHold is E5.
func refsHold(t *testing.T, c *cluster.Cluster, nodes int) (held int) {
	t.Helper()
	type holding struct {
		v api.Name
		i int
	}
	counted := map[holding]int{} // what the owner counts, and will, less what the holder has, and will
	for i := range nodes {
		n := c.Node(i).Node()
		for _, x := range n.Exports() {
			counted[holding{x.Var, x.Node}] += x.Times
		}
		for _, x := range n.Imports() {
			counted[holding{x.Var, i}] -= x.Times
			held++
		}
	}
	for way, row := range underWay(t, c, nodes) {
		for _, m := range row {
			switch m.Tag {
			case api.Add:
				counted[holding{m.Var, m.Count}]++
			case api.Release:
				counted[holding{m.Var, way[0]}] -= m.Count
			}
			for _, v := range wire.Carries(m) {
				if v.Node != way[1] {
					counted[holding{v, way[1]}]--
				}
			}
		}
	}
	for h, n := range counted {
		if n != 0 {
			t.Fatalf("%v at node %d: %d more counted than held", h.v, h.i, n)
		}
	}
	return held
}

// crashesChangeNothing is P21.4 (E8).
func crashesChangeNothing(t *testing.T, c *cluster.Cluster, nodes int) {
	t.Helper()
	f := c.Fork()
	for i := range nodes {
		k := strconv.Itoa(i)
		if f.Up(i) {
			do(t, f, "crash "+k)
		}
		expect(t, nodeText(f.Node(i)), nodeText(c.Node(i)))
		do(t, f, "restart "+k)
		expect(t, nodeText(f.Node(i)), nodeText(c.Node(i)))
	}
	expect(t, fmt.Sprint(f.Commits(), f.Submitted(), f.Pending()), fmt.Sprint(c.Commits(), c.Submitted(), c.Pending()))
}

// sight is what owners told of their variables so far.
type sight map[api.Name]api.Term

// again is P21.5 (E3): what was observed is so again, but resolved as far as more is known; or, behind a Collect, none.
func (s sight) again(t *testing.T, c *cluster.Cluster, nodes int, collected bool) {
	t.Helper()
	for v, was := range s {
		if !c.Up(v.Node) {
			continue
		}
		knows := c.Node(v.Node).Node().Heap()
		x, e := c.Observe(v.Node, v)
		if e == api.ErrNone && collected {
			delete(s, v)
			continue
		}
		want, wrong := knows.Resolve(was)
		if e != wrong || !term.Equal(x, want) {
			t.Fatalf("%v was %v, is %v, %v; want %v, %v", v, was, x, e, want, wrong)
		}
	}
	for i := range nodes {
		if !c.Up(i) {
			continue
		}
		for _, b := range c.Node(i).Node().Heap().Bindings() {
			x, e := c.Observe(i, b.Var)
			if e == api.OK && b.Var.Node == i {
				s[b.Var] = x
			} else if e != api.OK && e != api.ErrLong {
				t.Fatalf("%v has a value at node %d: %v", b.Var, i, e)
			}
		}
	}
}

// tail goes round without faults until there is a verdict, or for a while.
func tail(t *testing.T, c *cluster.Cluster, nodes int) {
	t.Helper()
	for range 250 {
		for i := range nodes {
			c.Do(api.Op{Kind: api.Restart, Node: i})
			c.Do(api.Op{Kind: api.DoStep, Node: i})
			do(t, c, "resend "+strconv.Itoa(i))
		}
		for n := len(c.Pending()); n > 0; n-- {
			c.Do(opOf(t, "deliver 0"))
		}
		if c.Verdict() != api.Running {
			return
		}
	}
}

// holds is all that holds whatever has happened, of a cluster and what was seen of it.
func holds(t *testing.T, c *cluster.Cluster, p api.Program, nodes int) (held int) {
	t.Helper()
	m := machine(t, c, p, nodes)
	valuesHold(t, c, m, nodes)
	v := c.Verdict()
	if v == api.Terminated && len(m.Goals()) > 0 || v == api.Suspended && (len(m.Goals()) == 0 || len(m.Open()) > 0) || v == api.Failed && !m.Failed() {
		t.Fatalf("verdict %d, goals %v", v, m.Goals()) // E6
	}
	return refsHold(t, c, nodes)
}

// TestWorlds: E1 to E6 and E8 of scripts by chance.
func TestWorlds(t *testing.T) {
	p := programOf(t, lawProgram)
	var reduced, held, seen, cut int
	verdicts := map[api.Verdict]int{}
	for seed := range 192 {
		r := rand.New(rand.NewSource(int64(seed)))
		nodes, budget := 3+r.Intn(2), 1000
		if r.Intn(6) == 0 {
			budget = 1 + r.Intn(20)
		}
		c, _ := cluster.New(p, nodes, budget)
		do(t, c, "submit "+goals[seed%len(goals)])
		saw, collected := sight{}, false
		for i := range 250 {
			o := someOp(r, nodes, len(c.Pending()))
			if o.Kind == api.DoSubmit && i%2 == 0 {
				o.Kind = api.Resend
			}
			if e := c.Do(o); e == api.OK && o.Cut > 0 {
				cut++
			}
			collected = collected || o.Kind == api.DoCollect
			if i%40 != 0 && o.Cut == 0 {
				continue
			}
			held += holds(t, c, p, nodes)
			saw.again(t, c, nodes, collected)
			seen += len(saw)
			if i%80 == 0 {
				crashesChangeNothing(t, c, nodes)
			}
		}
		tail(t, c, nodes)
		held += holds(t, c, p, nodes)
		saw.again(t, c, nodes, collected)
		reduced += len(c.Commits())
		verdicts[c.Verdict()]++
	}
	for what, n := range map[string]int{"reductions": reduced, "imports": held, "observations": seen, "cuts": cut} {
		if n < 500 {
			t.Errorf("%s: %d alone", what, n)
		}
	}
	if len(verdicts) < 5 {
		t.Errorf("verdicts: %v", slices.Sorted(maps.Keys(verdicts)))
	}
}
