package fair_test

import (
	"fmt"
	"math"
	"slices"
	"strconv"
	"strings"
	"testing"

	"purlin/api"
	"purlin/cluster"
	"purlin/fair"
	"purlin/wire"
)

var (
	_ func(*cluster.Cluster) []api.Op                           = fair.Round
	_ func(*cluster.Cluster, int) (api.Verdict, int, api.Errno) = fair.Go
	_ func(*cluster.Cluster) bool                               = fair.Quiet
	_ func(*cluster.Cluster) api.Verdict                        = fair.Truth
)

func times(n int, text string) string {
	return strings.TrimSuffix(strings.Repeat(text+", ", n), ", ")
}

// sent leads to a Ship that waits, and stands in node 0's outbox.
var sent = []string{"submit p(2)", "step 0", "step 0"}

// TestRound: each part of a round, there and not (P23.1).
func TestRound(t *testing.T) {
	for _, x := range []struct {
		what       string
		nodes      int
		budget     int
		operations []string
		want       string
	}{
		{"nothing has happened", 2, 100, nil, ""},
		{"a goal", 2, 100, []string{"submit p(2)"}, "step 0"},
		{"a goal that goes away by the next step", 2, 100, []string{"submit p(2)", "step 0"}, "step 0"},
		{"a datagram that waits, and stands in the outbox", 2, 100, sent, "resend 0, deliver 0, deliver 0"},
		{"one that was lost", 2, 100, append(sent[:3:3], "drop 0"), "resend 0, deliver 0"},
		{"one that waits twice", 2, 100, append(sent[:3:3], "double 0"), "resend 0, deliver 0, deliver 0, deliver 0"},
		{"one that came, its answer waits", 2, 100, append(sent[:3:3], "deliver 0"), "resend 0, step 1, deliver 0, deliver 0"},
		{"one that is acknowledged", 2, 100, append(sent[:3:3], "deliver 0", "deliver 0"), "step 1"},
		{"both have a goal and an outbox", 2, 100, []string{"submit q(1) @ 1", "submit q(1)", "submit q(2)", "step 0", "deliver 0", "step 1", "step 0", "step 0", "submit q(3) @ 1", "step 0", "step 0", "step 0", "step 0", "step 0", "step 0"},
			"step 0, resend 0, step 1, deliver 0, deliver 0, deliver 0, deliver 0"},
		{"a node that is down", 2, 100, []string{"submit p(2)", "crash 1"}, "restart 1, step 0"},
		{"all are down", 4, 100, []string{"crash 3", "crash 0", "crash 2", "crash 1"}, "restart 0, restart 1, restart 2, restart 3"},
		{"one that is down has a goal", 2, 100, []string{"submit p(2)", "crash 0"}, "restart 0, step 0"},
		{"one that is down will have its outbox again, though it was acknowledged", 2, 100, append(sent[:3:3], "deliver 0", "deliver 0", "crash 0"), "restart 0, resend 0, step 1, deliver 0"},
		{"one that is down, what it sent waits", 2, 100, append(sent[:3:3], "crash 0"), "restart 0, resend 0, deliver 0, deliver 0"},
		{"an event that was cut has not happened", 2, 100, []string{"submit p(2)", "step/3 0"}, "restart 0, step 0"},
		{"one whose record is complete has, and nothing was sent", 2, 100, []string{"submit p(2)", "step 0", "step/99 0"}, "restart 0, resend 0, deliver 0"},
		{"nothing is left at a node with a goal", 2, 1, []string{"submit s(1)", "step 0"}, ""},
		{"nothing is left from the beginning on", 2, 0, []string{"submit p(2)"}, ""},
		{"a goal that waits alone", 2, 100, []string{"submit w(X)", "step 0"}, ""},
		{"one node", 1, 100, []string{"submit w(a)", "submit w(b)"}, "step 0"},
		{"acknowledgements alone wait", 2, 100, append(sent[:3:3], "double 0", "double 0", "deliver 0", "deliver 0", "deliver 0", "deliver 0"), "step 1, deliver 0, deliver 0"},
	} {
		c := clusterOf(t, example, x.nodes, x.budget, x.operations...)
		was := whole(c)
		if got := roundText(t, c); got != x.want {
			t.Errorf("%s: %s; want %s", x.what, got, x.want)
		}
		expect(t, whole(c), was)
	}
}

// TestRoundIsLong: a round may have more operations than Run would do.
func TestRoundIsLong(t *testing.T) {
	c := clusterOf(t, example, 2, 100, sent...)
	for range api.MaxOps + 3 {
		do(t, c, "double 0")
	}
	expect(t, roundText(t, c), "resend 0, "+times(api.MaxOps+5, "deliver 0"))
	if v, n, e := fair.Go(c, 1); v != api.Running || n != 1 || e != api.OK {
		t.Error(v, n, e)
	}
	expect(t, fmt.Sprint(len(c.Pending())), fmt.Sprint(api.MaxOps+5)) // all were delivered: what waits is their answers
}

// TestRoundIsTheCallers: what is told may be overwritten.
func TestRoundIsTheCallers(t *testing.T) {
	c := clusterOf(t, example, 2, 100, sent...)
	l := fair.Round(c)
	clear(l[:cap(l)])
	expect(t, roundText(t, c), "resend 0, deliver 0, deliver 0")
}

func TestNil(t *testing.T) {
	if l := fair.Round(nil); len(l) > 0 {
		t.Error(l)
	}
	for _, rounds := range []int{0, 1, -1, math.MaxInt, math.MinInt} {
		if v, n, e := fair.Go(nil, rounds); v != 0 || n != 0 || e != api.ErrNil {
			t.Error(rounds, v, n, e)
		}
	}
	if fair.Quiet(nil) || fair.Truth(nil) != api.Running {
		t.Error(fair.Quiet(nil), fair.Truth(nil))
	}
}

// TestGoOfWrongRounds: ErrRange, whatever the cluster is, and nothing is done.
func TestGoOfWrongRounds(t *testing.T) {
	for _, operations := range [][]string{nil, sent, {"submit p(2)", "crash 0", "crash 1"}} {
		c := clusterOf(t, example, 2, 100, operations...)
		was := whole(c)
		for _, rounds := range []int{-1, math.MinInt, api.MaxRounds + 1, math.MaxInt, 1 << 32} {
			if v, n, e := fair.Go(c, rounds); v != 0 || n != 0 || e != api.ErrRange {
				t.Error(rounds, v, n, e)
			}
			expect(t, whole(c), was)
		}
	}
}

// TestGo: as many rounds as are asked for at most, and none behind a verdict (P23.1).
func TestGo(t *testing.T) {
	for _, x := range []struct {
		operations []string
		rounds     int
		want       api.Verdict
		done       int
	}{
		{nil, 0, api.Terminated, 0},
		{nil, api.MaxRounds, api.Terminated, 0},
		{[]string{"submit p(2)"}, 0, api.Running, 0},
		{[]string{"submit p(2)"}, 1, api.Running, 1},
		{[]string{"submit p(2)"}, 60, api.Terminated, 9},
		{[]string{"submit p(2)"}, 9, api.Terminated, 9},
		{[]string{"submit p(2)"}, 8, api.Running, 8},
		{[]string{"submit w(a)"}, 5, api.Terminated, 1},
		{[]string{"submit w(b)"}, 5, api.Failed, 1},
		{[]string{"submit w(b)", "step 0"}, 5, api.Failed, 0},
		{[]string{"submit w(X)"}, 5, api.Suspended, 1},
		{[]string{"submit s(1)"}, api.MaxRounds, api.OutOfFuel, 100},
		{[]string{"submit s(1)"}, 99, api.Running, 99},
		{[]string{"crash 0"}, 5, api.Terminated, 1},
		{[]string{"crash 0"}, 0, api.Running, 0},
		{[]string{"crash 1"}, 5, api.Terminated, 0},
		{[]string{"submit w(b)", "step 0", "crash 0"}, 5, api.Failed, 1},
	} {
		c := clusterOf(t, example, 2, 100, x.operations...)
		v, n, e := fair.Go(c, x.rounds)
		if v != x.want || n != x.done || e != api.OK {
			t.Errorf("%v, %d: %d, %d, %v; want %d, %d", x.operations, x.rounds, v, n, e, x.want, x.done)
		}
		if v != c.Verdict() {
			t.Errorf("%v: %d told, %d known", x.operations, v, c.Verdict())
		}
	}
}

// TestGoForLong: so many rounds are done where there is no verdict.
func TestGoForLong(t *testing.T) {
	c := clusterOf(t, example, 1, api.MaxBudget, "submit s(1)")
	for _, rounds := range []int{api.MaxRounds, 3} {
		if v, n, e := fair.Go(c, rounds); v != api.Running || n != rounds || e != api.OK {
			t.Error(v, n, e)
		}
	}
	expect(t, fmt.Sprint(len(c.Commits())), fmt.Sprint(api.MaxRounds+3))
}

// TestGoOfWhatIsRefused: a step that would export too much stands in the queue, and is tried in each round.
func TestGoOfWhatIsRefused(t *testing.T) {
	const program = "many(N) :- keep(A, B, C, D, E, F, G, H) @ 1, M := N + 1, many(M). keep(a, B, C, D, E, F, G, H)."
	c := clusterOf(t, program, 2, 1000, "submit many(0)", "submit keep(A, B, C, D, E, F, G, H) @ 1")
	if v, n, e := fair.Go(c, 200); v != api.Running || n != 200 || e != api.OK {
		t.Error(v, n, e)
	}
	if e := c.Do(opOf(t, "step 0")); e != api.ErrExports {
		t.Error(e)
	}
	if fair.Quiet(c) || fair.Truth(c) != api.Running || !strings.HasPrefix(roundText(t, c), "step 0") {
		t.Error(fair.Quiet(c), fair.Truth(c), roundText(t, c))
	}
}

// TestQuietAndTruth: goals, messages, nodes that are down (P23.2).
func TestQuietAndTruth(t *testing.T) {
	const program = example + " v(X) :- w(X) @ 1. g(X) :- X = a. k(X) :- w(X) @ 1, X = a."
	for _, x := range []struct {
		what       string
		budget     int
		operations []string
		quiet      bool
		truth      api.Verdict
	}{
		{"nothing has happened", 9, nil, true, api.Terminated},
		{"nothing has happened, all are down", 9, []string{"crash 0", "crash 1"}, true, api.Terminated},
		{"a goal", 9, []string{"submit p(2)"}, false, api.Running},
		{"a goal of a node that is down", 9, []string{"submit p(2)", "crash 0"}, false, api.Running},
		{"a goal whose Submit was cut", 9, []string{"submit/5 p(2)"}, true, api.Terminated},
		{"a goal whose Submit was written whole", 9, []string{"submit/99 p(2)"}, false, api.Running},
		{"a goal, and nothing is left", 0, []string{"submit p(2)"}, true, api.OutOfFuel},
		{"likewise of a node that is down", 0, []string{"submit p(2)", "crash 0"}, true, api.OutOfFuel},
		{"nothing is left, and no goal", 1, []string{"submit w(a)", "step 0"}, true, api.Terminated},
		{"nothing is left but a goal that waits", 1, []string{"submit w(a)", "submit w(X)", "step 0"}, true, api.OutOfFuel},
		{"a goal that waits", 9, []string{"submit w(X)", "step 0"}, true, api.Suspended},
		{"likewise of a node that is down", 9, []string{"submit w(X)", "step 0", "crash 0"}, true, api.Suspended},
		{"a goal that waits, and another one", 9, []string{"submit w(X)", "submit w(Y)", "step 0"}, false, api.Running},
		{"a goal that has failed", 9, []string{"submit w(b)", "step 0"}, true, api.Failed},
		{"a goal that has failed, others go on", 9, []string{"submit w(b)", "submit w(a)", "step 0"}, false, api.Failed},
		{"a goal that has failed, and then it was down", 9, []string{"submit w(b)", "step/99 0"}, true, api.Failed},
		{"a failure that was cut", 9, []string{"submit w(b)", "step/9 0"}, false, api.Running},
		{"a failure at the other node, that nobody knows", 9, []string{"submit w(b) @ 1", "step 0", "deliver 0", "step 1"}, true, api.Failed},
		{"a Ship in an outbox", 9, sent, false, api.Running},
		{"a Ship that was lost", 9, append(sent[:3:3], "drop 0"), false, api.Running},
		{"a Ship of a node that is down", 9, append(sent[:3:3], "drop 0", "crash 0"), false, api.Running},
		{"a Ship that was taken", 9, append(sent[:3:3], "deliver 0"), false, api.Running},
		{"a Ship that was taken, not acknowledged, and its goal is gone", 9, []string{"submit w(a) @ 1", "step 0", "deliver 0", "step 1"}, true, api.Terminated},
		{"likewise, and it waits once more", 9, []string{"submit w(a) @ 1", "step 0", "double 0", "deliver 0", "step 1"}, true, api.Terminated},
		{"likewise, its goal is gone, but its sender forgets that it was acknowledged", 9, []string{"submit w(a) @ 1", "step 0", "deliver 0", "step 1", "deliver 0", "crash 0"}, true, api.Terminated},
		{"its receiver is down, and had taken it", 9, []string{"submit w(a) @ 1", "step 0", "deliver 0", "step 1", "crash 1"}, true, api.Terminated},
		{"its receiver is down, and had not", 9, []string{"submit w(a) @ 1", "step 0", "deliver/4 0"}, false, api.Running},
		{"its receiver is down, and had, by a whole record", 9, []string{"submit w(a) @ 1", "step 0", "deliver/99 0"}, false, api.Running},
		{"a goal with nothing left at the other node", 1, []string{"submit s(1) @ 1", "step 0", "deliver 0", "step 1"}, true, api.OutOfFuel},
		{"a Read in an outbox", 9, []string{"submit v(X)", "step 0", "step 0", "deliver 0", "deliver 0", "step 1"}, false, api.Running},
		{"a Read that was taken, a goal that waits at the other node", 9, []string{"submit v(X)", "step 0", "step 0", "deliver 0", "deliver 0", "step 1", "deliver 0"}, true, api.Suspended},
		{"likewise, both nodes down", 9, []string{"submit v(X)", "step 0", "step 0", "deliver 0", "deliver 0", "step 1", "deliver 0", "crash 0", "crash 1"}, true, api.Suspended},
		{"a Value in an outbox", 9, []string{"submit k(X)", "step 0", "step 0", "deliver 0", "deliver 0", "step 1", "deliver 0", "step 0"}, false, api.Running},
	} {
		c := clusterOf(t, program, 2, x.budget, x.operations...)
		was := whole(c)
		if got := fair.Quiet(c); got != x.quiet {
			t.Errorf("%s: quiet %v", x.what, got)
		}
		if got := fair.Truth(c); got != x.truth {
			t.Errorf("%s: %d; want %d", x.what, got, x.truth)
		}
		expect(t, whole(c), was)
	}
}

// underWay are the messages that were sent and not taken, as texts: from, to, what.
func underWay(t testing.TB, c *cluster.Cluster) string {
	t.Helper()
	tags := []string{"", "read", "value", "ship", "add", "release", "return"}
	var l []string
	for i := 0; c.Node(i) != nil; i++ {
		for _, d := range c.Node(i).Link().Outbox() {
			m, e, _ := wire.Decode(d.Bytes)
			if e != api.OK {
				t.Fatal(d, e)
			}
			if d.Seq >= c.Node(d.To).Link().Next(i) {
				l = append(l, fmt.Sprintf("%d>%d %s", i, d.To, tags[m.Tag]))
			}
		}
	}
	return strings.Join(l, ", ")
}

// TestMessages: which of those that were not taken are something to be done (P23.2).
func TestMessages(t *testing.T) {
	const program = "g(X) :- true. h(X) :- g(X) @ 2. w(a). k(X) :- w(X) @ 1, b(X). b(X) :- X = a."
	shipped := []string{"step 0", "deliver 0", "deliver 0"}
	for _, x := range []struct {
		operations []string
		want       string
		quiet      bool
		truth      api.Verdict
	}{
		{[]string{"submit g(X) @ 1", "step 0"}, "0>1 ship", false, api.Running},
		{slices.Concat([]string{"submit g(X) @ 1"}, shipped, []string{"step 1", "step 1"}), "1>0 return", true, api.Terminated},
		{slices.Concat([]string{"submit g(X) @ 1"}, shipped, []string{"step 1", "step 1", "collect 1"}), "1>0 return, 1>0 release", true, api.Terminated},
		{slices.Concat([]string{"submit g(X) @ 1"}, shipped, []string{"step 1", "step 1", "collect 1", "deliver 0"}), "1>0 release", true, api.Terminated},
		{slices.Concat([]string{"submit h(X) @ 1"}, shipped, []string{"step 1", "step 1"}), "1>0 add, 1>0 return, 1>2 ship", false, api.Running},
		{slices.Concat([]string{"submit h(X) @ 1"}, shipped, []string{"step 1", "step 1", "deliver 1", "step 2", "step 2"}), "1>0 add, 1>0 return, 2>0 return", true, api.Terminated},
		{slices.Concat([]string{"submit h(X) @ 1"}, shipped, []string{"step 1", "step 1", "deliver 1", "step 2", "step 2", "deliver 0"}), "1>0 return, 2>0 return", true, api.Terminated},
		{slices.Concat([]string{"submit w(X) @ 1"}, shipped, []string{"step 1"}), "1>0 read, 1>0 return", false, api.Running},
		{slices.Concat([]string{"submit w(X) @ 1"}, shipped, []string{"step 1", "deliver 0"}), "1>0 return", true, api.Suspended},
		{slices.Concat([]string{"submit w(X) @ 1"}, shipped, []string{"step 1", "deliver 0", "deliver 0"}), "", true, api.Suspended},
		{slices.Concat([]string{"submit k(X)", "step 0"}, shipped, []string{"step 1", "deliver 0", "step 0", "step 0"}), "0>1 value, 1>0 return", false, api.Running},
		{slices.Concat([]string{"submit nobody"}, []string{"step 0"}), "", true, api.Failed},
		{slices.Concat([]string{"submit nobody @ 1"}, shipped, []string{"step 1"}), "1>0 return", true, api.Failed},
	} {
		c := clusterOf(t, program, 3, 20, x.operations...)
		expect(t, underWay(t, c), x.want)
		if fair.Quiet(c) != x.quiet || fair.Truth(c) != x.truth {
			t.Errorf("%v: %v, %d; want %v, %d", x.operations, fair.Quiet(c), fair.Truth(c), x.quiet, x.truth)
		}
		for i := range 3 { // nor does it hang on who is up
			do(t, c, "crash "+strconv.Itoa(i))
			if fair.Quiet(c) != x.quiet || fair.Truth(c) != x.truth {
				t.Errorf("%v, node %d down: %v, %d; want %v, %d", x.operations, i, fair.Quiet(c), fair.Truth(c), x.quiet, x.truth)
			}
		}
	}
}
