package node_test

import (
	"fmt"
	"testing"

	"purlin/api"
	"purlin/node"
)

// TestCreditThatCannotBeSplit: the message has none then, and the node's stays, or goes back.
func TestCreditThatCannotBeSplit(t *testing.T) {
	least := "0+1048576"
	n := made(t, "z.", 1, 3, 100, 8)
	script(t, n, "recv 0 ship 0.0 ?1_0 = a ; 1", "", "step", "0.0 ?1_0 = a => ?1_0 := a / 0: return 0 0 ; 1",
		"recv 2 read ?1_0 ; "+least, "2: value ?1_0 a ; 0 / 0: return 0 0 ; "+least,
		"recv 2 ship 0.1 z @ 2 ; "+least, "", "recv 0 add ?1_1 2", "", "recv 2 release ?1_1 1", "")
	is(t, n, "credit "+least)
	f := n.Fork()
	script(t, f, "step", "0.1 z @ 2 => 1.1 z / 2: ship 1.1 z ; 0 / 0: return 0 0 ; "+least)
	script(t, n, "recv 0 ship 0.2 true ; 0+1", "", "step", "0.1 z @ 2 => 1.1 z / 2: ship 1.1 z ; "+least)
	is(t, n, "credit 0+1", "queue 0.2 true")
	// Two messages: the first one is given what can be split, the second one nothing.
	k := nodeOf(t, "w(a, b).", 1, 3, 100)
	script(t, k, "recv 0 ship 0.1 w(?0_0, ?2_0) ; 0+1048575", "", "step", "0: read ?0_0 ; "+least+" / 2: read ?2_0 ; 0 / 0: return 1 0 ; "+least)
}

// TestCreditStays as long as a goal can go, and goes back when none can.
func TestCreditStays(t *testing.T) {
	n := nodeOf(t, "z. s :- s.", 1, 2, 3)
	script(t, n, "recv 0 ship 0.0 z ; 1+2", "", "recv 0 ship 0.1 s ; 0+2", "", "step", "0.0 z => by 0")
	is(t, n, "credit 1+1")
	script(t, n, "step", "0.1 s => by 1 & 1.0 s")
	is(t, n, "credit 1+1", "left 1")
	script(t, n, "step", "1.0 s => by 1 & 1.1 s / 0: return 0 2 ; 1+1")
	is(t, n, "credit 0", "left 0", "queue 1.1 s")
	script(t, n, "recv 0 value ?0_0 a ; 0+9", "0: return 0 2 ; 0+9", "recv 0 ship 0.2 a = b ; 0+8", "0: return 0 2 ; 0+8", "collect", "")
	// Without credit nothing goes back.
	k := made(t, "z.", 1, 2, 3, 8)
	script(t, k, "recv 0 add ?1_0 0", "", "recv 0 release ?1_0 1", "", "recv 0 release ?1_0 1", "")
	// What failed, what waits, and what is spent is told.
	m := nodeOf(t, "w(a). z. s :- s.", 1, 2, 2)
	script(t, m, "recv 0 ship 0.0 w(b) ; 1", "", "step", "0.0 w(b) => fails / 0: return 0 1 ; 1",
		"recv 0 ship 0.1 w(?0_0) ; 1", "", "step", "0: read ?0_0 ; 0+1 / 0: return 1 1 ; 0+1",
		"recv 0 ship 0.2 s ; 1", "", "step", "0.2 s => by 2 & 1.0 s / 0: return 1 3 ; 1")
}

func verdict(t testing.TB, n *node.Node, want api.Verdict) {
	t.Helper()
	if got := n.Verdict(); got != want {
		t.Errorf("verdict %d, want %d: %s", got, want, state(n))
	}
}

// TestVerdictByItself: of node 0, by its own state.
func TestVerdictByItself(t *testing.T) {
	program := "z. s :- s. w(a). two :- s, w(b)."
	n := nodeOf(t, program, 0, 2, 3)
	verdict(t, n, api.Terminated)
	do(t, n, "submit z")
	verdict(t, n, api.Running)
	do(t, n, "step")
	verdict(t, n, api.Terminated)
	do(t, n, "submit w(X)", "step")
	verdict(t, n, api.Suspended)
	do(t, n, "submit s")
	verdict(t, n, api.Running)
	do(t, n, "step")
	verdict(t, n, api.Running)
	do(t, n, "step")
	verdict(t, n, api.OutOfFuel)
	// Nothing is left, and nothing is in the queue: not out of fuel.
	n = nodeOf(t, program, 0, 2, 1)
	do(t, n, "submit z", "step")
	verdict(t, n, api.Terminated)
	n = nodeOf(t, program, 0, 2, 1)
	do(t, n, "submit w(X)", "submit z", "step", "step")
	verdict(t, n, api.Suspended)
	// Failed, whatever goes on.
	n = nodeOf(t, program, 0, 2, 3)
	do(t, n, "submit two", "step", "step")
	verdict(t, n, api.Running)
	do(t, n, "step")
	verdict(t, n, api.Failed)
	do(t, n, "submit s")
	verdict(t, n, api.Failed)
}

// TestVerdictByCredit: Running, as long as not just as much was collected as was given out.
func TestVerdictByCredit(t *testing.T) {
	n := nodeOf(t, "z.", 0, 3, 10)
	do(t, n, "submit z @ 1", "submit z @ 2", "step")
	verdict(t, n, api.Running)
	do(t, n, "step")
	verdict(t, n, api.Running)
	is(t, n, "collected 0+1 of 2")
	do(t, n, "recv 1 return 0 0 ; 1")
	verdict(t, n, api.Running)
	more := n.Fork()
	do(t, more, "recv 2 return 0 0 ; 1")
	verdict(t, more, api.Running) // more than was given out is not as much
	do(t, n, "recv 2 return 0 0 ; 0+1")
	verdict(t, n, api.Terminated)
	do(t, n, "recv 2 ship 2.0 z ; 1")
	verdict(t, n, api.Running)
}

// TestVerdictByReports: of others' last reports, each kind, and which comes ahead of which.
func TestVerdictByReports(t *testing.T) {
	for _, c := range []struct {
		one, two string // reports of nodes 1 and 2, each with half a unit
		want     api.Verdict
	}{
		{"0 0", "0 0", api.Terminated}, {"1 0", "0 0", api.Suspended}, {"0 0", "2147483647 0", api.Suspended}, {"2147483647 0", "2147483647 0", api.Suspended},
		{"0 2", "0 0", api.OutOfFuel}, {"0 0", "5 2", api.OutOfFuel}, {"0 2", "1 0", api.OutOfFuel},
		{"0 1", "0 0", api.Failed}, {"0 0", "1 3", api.Failed}, {"0 2", "0 1", api.Failed}, {"0 3", "1 0", api.Failed},
	} {
		n := nodeOf(t, "z. w(a).", 0, 3, 10)
		do(t, n, "submit z @ 1", "step") // half a unit is under way
		do(t, n, "recv 2 return "+c.two+" ; 0+2")
		half := n.Fork()
		do(t, n, "recv 1 return "+c.one+" ; 0+2")
		verdict(t, n, c.want)
		do(t, n, "recv 1 return 0 0 ; 1", "recv 2 return 0 0 ; 1")
		verdict(t, n, api.Running)
		// The last report alone counts; flags count by themselves, as long as they are the last ones.
		do(t, half, "recv 2 return 0 0 ; 0+3", "recv 1 return 0 0 ; 0+3")
		verdict(t, half, api.Terminated)
		waits := n.Fork()
		do(t, waits, "submit w(X)", "step")
		verdict(t, waits, api.Running)
	}
	// A goal that waits here, too.
	n := nodeOf(t, "w(a).", 0, 3, 10)
	do(t, n, "submit w(X)", "step", "recv 1 ship 1.0 true ; 1", "step")
	verdict(t, n, api.Running)
	n = nodeOf(t, "z. w(a).", 0, 3, 10)
	do(t, n, "recv 1 return 0 2 ; 0+1", "submit z @ 1", "step")
	verdict(t, n, api.OutOfFuel)
	// Failed is told while credit is under way.
	n = nodeOf(t, "z.", 0, 3, 10)
	do(t, n, "submit z @ 1", "submit z @ 2", "step", "recv 1 return 0 1 ; 0+3")
	verdict(t, n, api.Failed)
}

// TestVerdictOfOthers is Running, whatever happens there.
func TestVerdictOfOthers(t *testing.T) {
	n := nodeOf(t, "w(a). s :- s.", 1, 2, 2)
	for _, s := range []string{"recv 0 ship 0.0 true ; 1", "step", "recv 0 ship 0.1 w(?0_0) ; 1", "step", "recv 0 ship 0.2 a = b ; 1", "recv 0 ship 0.3 s ; 1", "step", "collect"} {
		do(t, n, s)
		verdict(t, n, api.Running)
	}
	is(t, n, fmt.Sprint("left ", 0))
}
