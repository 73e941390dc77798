package cluster_test

import (
	"fmt"
	"math"
	"slices"
	"strings"
	"testing"

	"purlin/api"
	"purlin/cluster"
	"purlin/durable"
)

// The calls have the forms that chapter 21 lists.
var (
	_ func(api.Program, int, int) (*cluster.Cluster, api.Errno)   = cluster.New
	_ func(*cluster.Cluster, api.Op) api.Errno                    = (*cluster.Cluster).Do
	_ func(*cluster.Cluster, ...api.Op) []api.Errno               = (*cluster.Cluster).Run
	_ func(*cluster.Cluster) []api.Datagram                       = (*cluster.Cluster).Pending
	_ func(*cluster.Cluster, int) bool                            = (*cluster.Cluster).Up
	_ func(*cluster.Cluster, int) *durable.Durable                = (*cluster.Cluster).Node
	_ func(*cluster.Cluster) []api.Commit                         = (*cluster.Cluster).Commits
	_ func(*cluster.Cluster) []api.Goal                           = (*cluster.Cluster).Submitted
	_ func(*cluster.Cluster) api.Verdict                          = (*cluster.Cluster).Verdict
	_ func(*cluster.Cluster, int, api.Name) (api.Term, api.Errno) = (*cluster.Cluster).Observe
	_ func(*cluster.Cluster) *cluster.Cluster                     = (*cluster.Cluster).Fork
)

func TestNew(t *testing.T) {
	right := programOf(t, example)
	wrong := api.Program{{Head: api.Term{{Kind: api.Int, N: 1}}}}
	body := programOf(t, "p :- q. q.")[:1]
	for _, x := range []struct {
		p             api.Program
		nodes, budget int
		want          api.Errno
	}{
		{right, 1, 0, api.OK}, {right, api.MaxNodes, api.MaxBudget, api.OK}, {nil, 2, 1, api.OK}, {api.Program{}, 3, 7, api.OK},
		{right, 0, 0, api.ErrRange}, {right, -1, 0, api.ErrRange}, {right, api.MaxNodes + 1, 0, api.ErrRange}, {right, math.MaxInt, 0, api.ErrRange}, {right, math.MinInt, 0, api.ErrRange},
		{right, 2, -1, api.ErrRange}, {right, 2, api.MaxBudget + 1, api.ErrRange}, {right, 2, math.MaxInt, api.ErrRange}, {right, 2, math.MinInt, api.ErrRange},
		{wrong, 2, 10, api.ErrHead}, {wrong, 0, -1, api.ErrHead}, {body, 2, 10, api.ErrPred}, {body, api.MaxNodes + 1, 10, api.ErrPred},
	} {
		c, e := cluster.New(x.p, x.nodes, x.budget)
		if e != x.want || (c == nil) != (e != api.OK) {
			t.Errorf("New of %d nodes, budget %d: %v, want %v", x.nodes, x.budget, e, x.want)
		}
		if e == api.OK {
			isNew(t, c, x.nodes, x.budget)
		}
	}
}

// isNew: all nodes are up, nothing has happened.
func isNew(t *testing.T, c *cluster.Cluster, nodes, budget int) {
	t.Helper()
	for i := -1; i <= api.MaxNodes; i++ {
		d, is := c.Node(i), i >= 0 && i < nodes
		if c.Up(i) != is || (d != nil) != is {
			t.Errorf("node %d of %d: %v, %v", i, nodes, c.Up(i), d)
		}
		if is && (!d.Up() || d.Node().Left() != budget || len(d.Events()) > 0 || len(d.Journal().Bytes()) > 0 || len(d.Link().Outbox()) > 0) {
			t.Errorf("node %d of %d: %s", i, nodes, durableText(d))
		}
	}
	if len(c.Pending()) > 0 || len(c.Commits()) > 0 || len(c.Submitted()) > 0 || c.Verdict() != c.Node(0).Node().Verdict() {
		t.Error(whole(c))
	}
}

func TestNil(t *testing.T) {
	var c *cluster.Cluster
	for kind := range api.OpKind(12) {
		for _, node := range []int{-1, 0, math.MaxInt} {
			if e := c.Do(api.Op{Kind: kind, Node: node, K: node, Cut: node, Text: "("}); e != api.ErrNil {
				t.Errorf("kind %d: %v", kind, e)
			}
		}
	}
	if l := c.Run(api.Op{}, api.Op{Kind: api.DoStep}); !slices.Equal(l, []api.Errno{api.ErrNil, api.ErrNil}) || len(c.Run()) != 0 {
		t.Error("Run of none:", l)
	}
	if x, e := c.Observe(0, api.Name{}); e != api.ErrNil || len(x) > 0 {
		t.Error("Observe of none:", x, e)
	}
	if x, e := c.Observe(-1, api.Name{Node: -1}); e != api.ErrNil || len(x) > 0 {
		t.Error("Observe of none:", x, e)
	}
	if len(c.Pending()) > 0 || c.Up(0) || c.Node(0) != nil || len(c.Commits()) > 0 || len(c.Submitted()) > 0 || c.Verdict() != api.Running || c.Fork() != nil {
		t.Error("a cluster that is none tells something")
	}
}

// TestExample is DOC.md's p(2), step by step.
func TestExample(t *testing.T) {
	c := clusterOf(t, example, 2, 100)
	do(t, c, "submit p(2)", "step 0")
	expect(t, waiting(c), "")
	do(t, c, "step 0")
	expect(t, waiting(c), "0>1 data 0")
	do(t, c, "deliver 0")
	expect(t, waiting(c), "1>0 ack 0")
	do(t, c, "step 1", "step 1", "step 1", "deliver 0", "step 1")
	expect(t, waiting(c), "")
	if len(c.Node(0).Link().Outbox()) > 0 {
		t.Error("it is acknowledged:", c.Node(0).Link().Outbox())
	}
	expect(t, fmt.Sprint(c.Verdict()), fmt.Sprint(api.Running))
	do(t, c, "step 1")
	expect(t, waiting(c), "1>0 data 0")
	do(t, c, "deliver 0", "deliver 0")
	expect(t, fmt.Sprint(c.Verdict()), fmt.Sprint(api.Terminated))
	expect(t, waiting(c), "")
	expect(t, submitted(t, c), "0.0 p(2)")
	expect(t, strings.Join(commits(t, c), "\n"), `0: 0.0 p(2) by 0 ; 0.1 q(2) @ 1
0: 0.1 q(2) @ 1 ; 0.2 q(2)
1: 0.2 q(2) by 1 ; 1.0 ?1_0 := 2 + 1 ; 1.1 r(?1_0)
1: 1.0 ?1_0 := 2 + 1 ; 1.2 ?1_0 = 3
1: 1.2 ?1_0 = 3 ; ?1_0 := 3
1: 1.1 r(?1_0) by 2`)
	expect(t, observed(t, c, 1, name(1, 0)), "3")
	expect(t, observed(t, c, 0, name(1, 0)), "error 4")
}

// TestDoErrorsInOrder: what is named first is told, where all that is named behind applies, too.
func TestDoErrorsInOrder(t *testing.T) {
	c := clusterOf(t, example, 2, 100)
	do(t, c, "submit p(2)", "step 0", "step 0", "crash 0", "crash 1")
	const far = math.MaxInt
	for _, kind := range []api.OpKind{0, api.Restart + 1, 100, 255} {
		refuses(t, c, api.ErrForm, api.Op{Kind: kind}, api.Op{Kind: kind, Node: -1, K: -1, Cut: -1, Text: "("})
	}
	for _, kind := range []api.OpKind{api.DoStep, api.DoCollect, api.DoSubmit, api.Resend, api.Crash, api.Restart} {
		for _, n := range []int{-1, 2, api.MaxNodes, far, math.MinInt} {
			refuses(t, c, api.ErrRange, api.Op{Kind: kind, Node: n, Text: "p"}, api.Op{Kind: kind, Node: n, K: -1, Cut: -1, Text: "("})
		}
		refuses(t, c, api.ErrForm, api.Op{Kind: kind, K: -1, Cut: -1, Text: "("}, api.Op{Kind: kind, K: far, Cut: math.MinInt, Text: "p"})
	}
	refuses(t, c, api.ErrRange, api.Op{Kind: api.DoSubmit, Node: 1, Cut: -1, Text: "("}, api.Op{Kind: api.DoSubmit, Node: 1, Text: "p(2)"})
	for _, kind := range []api.OpKind{api.Deliver, api.Drop, api.Double} {
		for _, k := range []int{-1, 1, far, math.MinInt} {
			refuses(t, c, api.ErrNone, api.Op{Kind: kind, K: k}, api.Op{Kind: kind, K: k, Node: -1, Cut: -1, Text: "("})
		}
		refuses(t, c, api.ErrForm, api.Op{Kind: kind, Cut: -1}, api.Op{Kind: kind, Node: -1, Cut: math.MinInt})
	}
	for _, kind := range []api.OpKind{api.Drop, api.Double, api.Resend, api.Crash, api.Restart} {
		refuses(t, c, api.ErrForm, api.Op{Kind: kind, Cut: 1}, api.Op{Kind: kind, Cut: far, Text: "("})
	}
	for _, kind := range []api.OpKind{api.DoStep, api.DoCollect, api.DoSubmit} {
		refuses(t, c, api.ErrDown, api.Op{Kind: kind, Text: "("}, api.Op{Kind: kind, Cut: 1, Text: "("}, api.Op{Kind: kind, Cut: far, Text: "p(2)"})
	}
	refuses(t, c, api.ErrDown, api.Op{Kind: api.Crash}, api.Op{Kind: api.Resend}, api.Op{Kind: api.Crash, Node: 1, K: -1, Text: "("}, api.Op{Kind: api.Resend, Node: 1, K: far})
	do(t, c, "restart 0", "restart 1")
	refuses(t, c, api.ErrUp, api.Op{Kind: api.Restart}, api.Op{Kind: api.Restart, Node: 1, K: -1, Text: "("})
}

// TestNodePlaysNoPart of what is of a datagram; nor the datagram of what is of a node.
func TestNodePlaysNoPart(t *testing.T) {
	for _, n := range []int{-1, 1, 2, math.MaxInt, math.MinInt} {
		c := clusterOf(t, example, 2, 100)
		do(t, c, "submit p(2)", "step 0")
		if e := c.Do(api.Op{Kind: api.DoStep, K: n, Text: "("}); e != api.OK {
			t.Error(n, e)
		}
		for _, kind := range []api.OpKind{api.Double, api.Double, api.Drop, api.Deliver} {
			if e := c.Do(api.Op{Kind: kind, Node: n, Text: "("}); e != api.OK {
				t.Error(kind, n, e)
			}
		}
		expect(t, waiting(c), "0>1 data 0, 1>0 ack 0")
	}
}

func TestSubmitErrors(t *testing.T) {
	c := clusterOf(t, example, 2, 100)
	for text, want := range map[string]api.Errno{
		"": api.ErrEnd, "p(": api.ErrEnd, "p(2) q": api.ErrSyntax, "p(2).": api.ErrSyntax, "p(;)": api.ErrChar, "2147483649": api.ErrNumber, strings.Repeat(" ", api.MaxText) + "p": api.ErrLong,
		"X": api.ErrForm, "7": api.ErrForm, "p(?0_0)": api.ErrForm, "p(X, ?1_3)": api.ErrForm,
	} {
		refuses(t, c, want, api.Op{Kind: api.DoSubmit, Text: text}, api.Op{Kind: api.DoSubmit, Cut: 1, Text: text}, api.Op{Kind: api.DoSubmit, Cut: 100000, Text: text})
	}
	do(t, c, "submit nobody(X, Y, X)", "submit true", "submit A = B")
	expect(t, submitted(t, c), "0.0 nobody(?0_0, ?0_1, ?0_0), 0.1 true, 0.2 ?0_2 = ?0_3")
}

func TestStepErrors(t *testing.T) {
	c := clusterOf(t, example, 2, 1)
	refuses(t, c, api.ErrIdle, opOf(t, "step 0"), opOf(t, "step/1 0"), opOf(t, "step/999 1"))
	do(t, c, "submit s(1)", "step 0")
	refuses(t, c, api.ErrFuel, opOf(t, "step 0"), opOf(t, "step/1 0"), opOf(t, "step/999 0"))
	expect(t, fmt.Sprint(c.Verdict()), fmt.Sprint(api.OutOfFuel))
}

func TestRun(t *testing.T) {
	c := clusterOf(t, example, 2, api.MaxBudget)
	if l := c.Run(); len(l) != 0 {
		t.Error(l)
	}
	l := c.Run(opOf(t, "submit s(1)"), opOf(t, "step 1"), opOf(t, "step 0"), opOf(t, "crash 1"), api.Op{}, opOf(t, "step 1"))
	if !slices.Equal(l, []api.Errno{api.OK, api.ErrIdle, api.OK, api.OK, api.ErrForm, api.ErrDown}) {
		t.Error(l)
	}
	many := slices.Repeat([]api.Op{opOf(t, "step 0"), {}}, api.MaxOps)
	for _, n := range []int{api.MaxOps, api.MaxOps + 1, 2 * api.MaxOps} {
		before := len(c.Commits())
		l := c.Run(many[:n]...)
		if len(l) != n || len(c.Commits()) != before+api.MaxOps/2 {
			t.Errorf("%d operations: %d answers, %d commits", n, len(l), len(c.Commits())-before)
		}
		for i, e := range l {
			want := []api.Errno{api.OK, api.ErrForm}[i%2]
			if i >= api.MaxOps {
				want = api.ErrLong
			}
			if e != want {
				t.Fatalf("operation %d: %v, want %v", i, e, want)
			}
		}
	}
}
