package cluster_test

import (
	"fmt"
	"slices"
	"strconv"
	"strings"
	"testing"

	"purlin/api"
	"purlin/cluster"
	"purlin/durable"
	"purlin/syntax"
	"purlin/trace"
)

// The tests write operations as texts, a cut behind a stroke:
//
//	submit p(2)    submit/4 p(2)    step 0    step/9 1    collect 1    deliver 0    deliver/3 0
//	drop 0    double 0    resend 1    crash 1    restart 1

const example = "p(X) :- X > 0 | q(X) @ 1. q(X) :- Y := X + 1, r(Y). r(3). w(a). s(X) :- s(X)."

func name(node, number int) api.Name { return api.Name{Node: node, Number: number} }

func programOf(t testing.TB, text string) api.Program {
	t.Helper()
	p, e, at := syntax.Program(text)
	if e != api.OK {
		t.Fatalf("%q: %v at %d", text, e, at)
	}
	return p
}

func clusterOf(t testing.TB, program string, nodes, budget int) *cluster.Cluster {
	t.Helper()
	c, e := cluster.New(programOf(t, program), nodes, budget)
	if e != api.OK {
		t.Fatalf("%q: %v", program, e)
	}
	return c
}

func opOf(t testing.TB, text string) (o api.Op) {
	t.Helper()
	word, rest, _ := strings.Cut(text, " ")
	word, cut, has := strings.Cut(word, "/")
	if has {
		o.Cut = numberOf(t, cut)
	}
	words := []string{"step", "collect", "submit", "deliver", "drop", "double", "resend", "crash", "restart"}
	o.Kind = api.OpKind(1 + slices.Index(words, word))
	switch o.Kind {
	case 0:
		t.Fatalf("operation %q", text)
	case api.DoSubmit:
		o.Text = rest
	case api.Deliver, api.Drop, api.Double:
		o.K = numberOf(t, rest)
	default:
		o.Node = numberOf(t, rest)
	}
	return o
}

func numberOf(t testing.TB, text string) int {
	t.Helper()
	n, err := strconv.Atoi(text)
	if err != nil {
		t.Fatalf("number %q", text)
	}
	return n
}

// do does operations that have no error.
func do(t testing.TB, c *cluster.Cluster, operations ...string) {
	t.Helper()
	for _, s := range operations {
		if e := c.Do(opOf(t, s)); e != api.OK {
			t.Fatalf("%s: %v", s, e)
		}
	}
}

// refuses does operations that have an error each, and change nothing.
func refuses(t testing.TB, c *cluster.Cluster, want api.Errno, operations ...api.Op) {
	t.Helper()
	for _, o := range operations {
		before := whole(c)
		if e := c.Do(o); e != want {
			t.Errorf("%v: %v, want %v", o, e, want)
		}
		if after := whole(c); after != before {
			t.Errorf("%v has changed\n%s\nto\n%s", o, before, after)
		}
	}
}

// nodeText is what a node is, down or up.
func nodeText(d *durable.Durable) string {
	n := d.Node()
	collected, units := n.Collected()
	return fmt.Sprint(n.Queue(), n.Waiting(), n.Heap().Bindings(), n.Exports(), n.Imports(), n.Credit(), collected, units, n.Verdict(), n.Left(), n.Roots())
}

func durableText(d *durable.Durable) string {
	l := d.Link()
	again, e := d.Resend()
	text := fmt.Sprint(d.Up(), again, e, d.Journal().Bytes(), l.Outbox())
	for k := range api.MaxNodes {
		text += fmt.Sprint(" ", l.Next(k), l.Sent(k))
	}
	return text + "\n" + nodeText(d)
}

// whole is all that a cluster is.
func whole(c *cluster.Cluster) string {
	l := []string{fmt.Sprint(c.Pending()), fmt.Sprint(c.Commits()), fmt.Sprint(c.Submitted()), fmt.Sprint(c.Verdict())}
	for i := 0; c.Node(i) != nil; i++ {
		l = append(l, fmt.Sprint(c.Up(i)), durableText(c.Node(i)))
	}
	return strings.Join(l, "\n")
}

// waiting are the datagrams that wait, as texts: from, to, what, its number.
func waiting(c *cluster.Cluster) string {
	var l []string
	for _, d := range c.Pending() {
		kind := "data"
		if d.Ack {
			kind = "ack"
		}
		l = append(l, fmt.Sprintf("%d>%d %s %d", d.From, d.To, kind, d.Seq))
	}
	return strings.Join(l, ", ")
}

func commits(t testing.TB, c *cluster.Cluster) []string {
	t.Helper()
	var l []string
	for _, x := range c.Commits() {
		s, e := trace.Print(x)
		if e != api.OK {
			t.Fatal(x, e)
		}
		l = append(l, s)
	}
	return l
}

func submitted(t testing.TB, c *cluster.Cluster) string {
	t.Helper()
	var l []string
	for _, g := range c.Submitted() {
		s, e := syntax.Print(g.Term)
		if e != api.OK {
			t.Fatal(g, e)
		}
		l = append(l, fmt.Sprintf("%d.%d %s", g.Name.Node, g.Name.Number, s))
	}
	return strings.Join(l, ", ")
}

func observed(t testing.TB, c *cluster.Cluster, i int, v api.Name) string {
	t.Helper()
	x, e := c.Observe(i, v)
	if e != api.OK {
		if len(x) > 0 {
			t.Errorf("Observe(%d, %v): %v beside %v", i, v, x, e)
		}
		return fmt.Sprint("error ", int(e))
	}
	s, e := syntax.Print(x)
	if e != api.OK {
		t.Fatal(x, e)
	}
	return s
}

func expect(t testing.TB, got, want string) {
	t.Helper()
	if got != want {
		t.Errorf("%s; want %s", got, want)
	}
}
