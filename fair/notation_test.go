package fair_test

import (
	"fmt"
	"slices"
	"strconv"
	"strings"
	"testing"

	"purlin/api"
	"purlin/cluster"
	"purlin/durable"
	"purlin/fair"
	"purlin/syntax"
)

// The tests write operations as texts, a cut behind a stroke:
//
//	submit p(2)    step 0    step/9 1    collect 1    deliver 0    deliver/3 0
//	drop 0    double 0    resend 1    crash 1    restart 1

var words = []string{"step", "collect", "submit", "deliver", "drop", "double", "resend", "crash", "restart"}

const example = "p(X) :- X > 0 | q(X) @ 1. q(X) :- Y := X + 1, r(Y). r(3). w(a). s(X) :- s(X)."

func programOf(t testing.TB, text string) api.Program {
	t.Helper()
	p, e, at := syntax.Program(text)
	if e != api.OK {
		t.Fatalf("%q: %v at %d", text, e, at)
	}
	return p
}

func clusterOf(t testing.TB, program string, nodes, budget int, operations ...string) *cluster.Cluster {
	t.Helper()
	c, e := cluster.New(programOf(t, program), nodes, budget)
	if e != api.OK {
		t.Fatalf("%q: %v", program, e)
	}
	do(t, c, operations...)
	return c
}

func opOf(t testing.TB, text string) (o api.Op) {
	t.Helper()
	word, rest, _ := strings.Cut(text, " ")
	word, cut, has := strings.Cut(word, "/")
	if has {
		o.Cut = numberOf(t, cut)
	}
	o.Kind = api.OpKind(1 + slices.Index(words, word))
	switch o.Kind {
	case 0:
		t.Fatalf("operation %q", text)
	case api.DoSubmit:
		o.Text = rest
	case api.Deliver, api.Drop, api.Double:
		o.K = numberOf(t, rest)
	default:
		o.Node = numberOf(t, rest)
	}
	return o
}

func numberOf(t testing.TB, text string) int {
	t.Helper()
	n, err := strconv.Atoi(text)
	if err != nil {
		t.Fatalf("number %q", text)
	}
	return n
}

// do does operations that have no error.
func do(t testing.TB, c *cluster.Cluster, operations ...string) {
	t.Helper()
	for _, s := range operations {
		if e := c.Do(opOf(t, s)); e != api.OK {
			t.Fatalf("%s: %v", s, e)
		}
	}
}

// opText is an operation with all that it has, but zero values where its kind names none.
func opText(t testing.TB, o api.Op) string {
	t.Helper()
	if o.Kind < api.DoStep || o.Kind > api.Restart || o.Cut != 0 || o.Text != "" {
		t.Fatalf("operation %v", o)
	}
	n, other := o.Node, o.K
	if o.Kind == api.Deliver {
		n, other = o.K, o.Node
	}
	if other != 0 {
		t.Fatalf("operation %v", o)
	}
	return words[o.Kind-1] + " " + strconv.Itoa(n)
}

func roundText(t testing.TB, c *cluster.Cluster) string {
	t.Helper()
	var l []string
	for _, o := range fair.Round(c) {
		l = append(l, opText(t, o))
	}
	return strings.Join(l, ", ")
}

// nodeText is what a node is, down or up.
func nodeText(d *durable.Durable) string {
	n := d.Node()
	collected, units := n.Collected()
	return fmt.Sprint(n.Queue(), n.Waiting(), n.Heap().Bindings(), n.Exports(), n.Imports(), n.Credit(), collected, units, n.Verdict(), n.Left(), n.Roots())
}

func durableText(d *durable.Durable) string {
	l := d.Link()
	again, e := d.Resend()
	text := fmt.Sprint(d.Up(), again, e, d.Journal().Bytes(), l.Outbox())
	for k := range api.MaxNodes {
		text += fmt.Sprint(" ", l.Next(k), l.Sent(k))
	}
	return text + "\n" + nodeText(d)
}

// whole is all that a cluster is.
func whole(c *cluster.Cluster) string {
	l := []string{fmt.Sprint(c.Pending()), fmt.Sprint(c.Commits()), fmt.Sprint(c.Submitted()), fmt.Sprint(c.Verdict())}
	for i := 0; c.Node(i) != nil; i++ {
		l = append(l, fmt.Sprint(c.Up(i)), durableText(c.Node(i)))
	}
	return strings.Join(l, "\n")
}

func expect(t testing.TB, got, want string) {
	t.Helper()
	if got != want {
		t.Errorf("%s; want %s", got, want)
	}
}
