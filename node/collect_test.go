package node_test

import (
	"fmt"
	"slices"
	"strings"
	"testing"

	"purlin/api"
	"purlin/node"
)

// TestCollectNothing: where nothing is to be let go, nothing changes.
func TestCollectNothing(t *testing.T) {
	for i := range 3 {
		n := nodeOf(t, "p.", i, 3, 5)
		before := whole(t, n)
		script(t, n, "collect", "", "collect", "")
		if whole(t, n) != before {
			t.Error(whole(t, n))
		}
	}
}

// TestCollect: what each kind of roots leads to stays; all else goes.
func TestCollect(t *testing.T) {
	n := made(t, "w(a, X). z(X).", 1, 4, 100, 16)
	// Values that lead from one to another, and others that nobody needs.
	for _, s := range []string{"?1_0 = f(?1_1, ?0_0)", "?1_1 = g(?2_0)", "?1_3 = ?1_2", "?1_2 = h(?3_0, ?0_0)", "?1_4 = f(?1_4)", "?1_5 = f(?1_6)", "?1_6 = f(?1_5, ?2_1)"} {
		do(t, n, "recv 0 ship 0.0 "+s+" ; 1", "step")
	}
	do(t, n, "recv 2 value ?2_0 f(?3_7, ?1_8) ; 1", "recv 3 value ?3_0 a ; 1", "recv 2 value ?2_5 a ; 1", "recv 3 value ?3_7 f(?3_7) ; 1")
	is(t, n, "in ?0_0 0 2 & ?2_0 2 1 & ?2_1 2 1 & ?3_0 3 1 & ?3_7 3 2")
	all := n.Fork()
	script(t, all, "collect", "0: release ?0_0 2 / 2: release ?2_0 1 / 2: release ?2_1 1 / 3: release ?3_0 1 / 3: release ?3_7 2")
	is(t, all, "knows ", "in ")
	script(t, all, "collect", "")
	for _, c := range []struct{ what, events, sent, knows, in string }{
		{"queue", "recv 0 ship 0.9 z(?1_0) ; 1", "2: release ?2_1 1 / 3: release ?3_0 1",
			"?1_0 := f(?1_1, ?0_0) & ?1_1 := g(?2_0) & ?2_0 := f(?3_7, ?1_8) & ?3_7 := f(?3_7)", "?0_0 0 2 & ?2_0 2 1 & ?3_7 3 2"},
		{"waiting", "recv 0 ship 0.9 w(?0_9, ?1_3) ; 1 | step", "2: release ?2_0 1 / 2: release ?2_1 1 / 3: release ?3_7 2",
			"?1_2 := h(?3_0, ?0_0) & ?1_3 := ?1_2 & ?3_0 := a", "?0_0 0 2 & ?0_9 0 1 & ?3_0 3 1"},
		{"exports", "recv 0 add ?1_5 3", "0: release ?0_0 2 / 2: release ?2_0 1 / 3: release ?3_0 1 / 3: release ?3_7 2",
			"?1_5 := f(?1_6) & ?1_6 := f(?1_5, ?2_1)", "?2_1 2 1"},
		{"exports below 0", "recv 3 release ?1_4 1", "0: release ?0_0 2 / 2: release ?2_0 1 / 2: release ?2_1 1 / 3: release ?3_0 1 / 3: release ?3_7 2",
			"?1_4 := f(?1_4)", ""},
		{"exports that are gone", "recv 3 release ?1_4 1 | recv 2 add ?1_4 3", "0: release ?0_0 2 / 2: release ?2_0 1 / 2: release ?2_1 1 / 3: release ?3_0 1 / 3: release ?3_7 2",
			"", ""},
	} {
		f := n.Fork()
		do(t, f, strings.Split(c.events, " | ")...)
		queue, waiting, amount := f.Queue(), f.Waiting(), f.Credit()
		if got := do(t, f, "collect"); got != c.sent {
			t.Errorf("%s: %s; want %s", c.what, got, c.sent)
		}
		is(t, f, "knows "+c.knows, "in "+c.in)
		if listed(f.Queue(), goalText) != listed(queue, goalText) || listed(f.Waiting(), goalText) != listed(waiting, goalText) || fmt.Sprint(f.Credit()) != fmt.Sprint(amount) {
			t.Errorf("%s: %s", c.what, state(f))
		}
		script(t, f, "collect", "")
	}
}

// TestCollectRoots: variables of submitted goals stay for ever, and what they lead to.
func TestCollectRoots(t *testing.T) {
	n := nodeOf(t, "p(X, Y) :- X = f(Z), Z = g(Y, W), V = a.", 0, 2, 100)
	do(t, n, "submit p(X, Y)", "step", "step", "step", "step")
	is(t, n, "knows ?0_0 := f(?0_2) & ?0_2 := g(?0_1, ?0_3) & ?0_4 := a", "queue ")
	script(t, n, "collect", "")
	is(t, n, "knows ?0_0 := f(?0_2) & ?0_2 := g(?0_1, ?0_3)", "roots ?0_0 & ?0_1", "collected 1 of 1")
}

// TestCollectWanted: what is wanted and not needed is not wanted any more; what is needed is still.
func TestCollectWanted(t *testing.T) {
	n := nodeOf(t, "w(a, X). u(X) :- known(X) | true.", 1, 3, 100)
	do(t, n, "recv 0 ship 0.0 w(?0_0, 1) ; 1", "recv 0 ship 0.1 w(?0_1, 2) ; 1")
	script(t, n, "step", "0: read ?0_0 ; 1", "step", "0: read ?0_1 ; 0+1 / 0: return 2 0 ; 0+1")
	script(t, n, "recv 0 ship 0.2 w(?2_0, ?0_5) ; 1", "", "step", "2: read ?2_0 ; 0+1 / 0: return 3 0 ; 0+1",
		"recv 2 value ?2_0 b ; 1", "", "step", "0.2 w(?2_0, ?0_5) => fails / 0: return 2 1 ; 1",
		"collect", "0: release ?0_5 1 / 2: release ?2_0 1")
	script(t, n, "recv 0 ship 0.3 u(?0_0) ; 1", "", "step", "0: return 3 1 ; 1")
}

// TestCollectWantedNoMore: a goal that waited for two variables, and went by one of them, needs the other one no more.
func TestCollectWantedNoMore(t *testing.T) {
	n := nodeOf(t, "w(a, X) :- X > 0 | true. w(X, b). u(X) :- known(X) | true.", 1, 3, 100)
	script(t, n, "recv 0 ship 0.0 w(?0_0, ?2_0) ; 1", "", "step", "0: read ?0_0 ; 0+1 / 2: read ?2_0 ; 0+2 / 0: return 1 0 ; 0+2",
		"recv 2 value ?2_0 b ; 1", "", "step", "0.0 w(?0_0, ?2_0) => by 1 / 0: return 0 0 ; 1")
	kept := n.Fork()
	script(t, kept, "recv 0 ship 0.1 u(?0_0) ; 1", "", "step", "0: return 1 0 ; 1")
	script(t, n, "collect", "0: release ?0_0 1 / 2: release ?2_0 1",
		"recv 0 ship 0.1 u(?0_0) ; 1", "", "step", "0: read ?0_0 ; 0+1 / 0: return 1 0 ; 0+1")
	// A value that was under way is taken.
	script(t, n, "recv 0 value ?0_0 c ; 1", "", "step", "0.1 u(?0_0) => by 2 & 1.0 true")
}

// TestToldOnce: who was told a value waits no more, though the variable has none any more, and gets another one.
func TestToldOnce(t *testing.T) {
	n := made(t, "", 1, 3, 100, 8)
	script(t, n, "recv 2 read ?1_0 ; 0+1", "0: return 0 0 ; 0+1", "recv 0 ship 0.0 ?1_0 = a ; 1", "", "step", "0.0 ?1_0 = a => ?1_0 := a / 2: value ?1_0 a ; 0+1 / 0: return 0 0 ; 0+1",
		"collect", "", "recv 0 ship 0.1 ?1_0 = b ; 1", "", "step", "0.1 ?1_0 = b => ?1_0 := b / 0: return 0 0 ; 1")
}

// TestCollectAndReturn: Collect has no end as other events have: credit stays where it is.
func TestCollectAndReturn(t *testing.T) {
	n := nodeOf(t, "p.", 1, 2, 100)
	do(t, n, "recv 0 ship 0.0 p ; 1", "recv 0 ship 0.1 f(?0_0) ; 1", "step")
	script(t, n, "collect", "")
	is(t, n, "credit 2", "in ?0_0 0 1")
	do(t, n, "step")
	script(t, n, "collect", "0: release ?0_0 1")
}

// exporting is node 0 of 4 that has so many variables, of which it has exported the first ones to node 1.
func exporting(t testing.TB, vars, exported int) *node.Node {
	t.Helper()
	n := made(t, "z(X). z(X, Y). t(X) :- known(X) | true.", 0, 4, 1000, vars)
	for i := range exported {
		do(t, n, fmt.Sprintf("recv 2 add ?0_%d 1", i))
	}
	return n
}

// TestExports: ErrExports just above MaxExports, in each way in which exports come; the same variable once more is none more.
func TestExports(t *testing.T) {
	most := api.MaxExports
	n := exporting(t, most+8, most-1)
	do(t, n, "recv 1 ship 1.0 z(?0_64, ?0_65) @ 1 ; 1", "recv 1 ship 1.1 z(?0_0, ?0_65) @ 1 ; 1")
	refuses(t, n, api.ErrExports, api.Event{Kind: api.Step})
	// One more is just as many as may be.
	f := n.Fork()
	do(t, f, "recv 2 release ?0_0 1")
	if len(f.Exports()) != most {
		t.Error(f.Exports())
	}
	f = n.Fork()
	do(t, f, "recv 3 add ?0_70 2", "recv 3 add ?0_70 2", "recv 3 add ?0_70 1")
	for _, s := range []string{"add ?0_71 1", "release ?0_71 1", "add ?0_71 3"} {
		refuses(t, f, api.ErrExports, receive(t, 2, s))
	}
	do(t, f, "recv 2 add ?0_62 3", "recv 2 release ?0_0 5")
	// What falls to 0 makes room.
	do(t, f, "recv 2 add ?0_3 3", "recv 3 release ?0_3 1", "recv 1 release ?0_3 1", "recv 2 add ?0_71 3")
	refuses(t, f, api.ErrExports, receive(t, 2, "add ?0_3 1"))
}

// TestExportsByStepsAndReads: variables that go with goals, equations and values.
func TestExportsByStepsAndReads(t *testing.T) {
	most := api.MaxExports
	for _, c := range []struct {
		goal string
		more int
	}{
		{"z(?0_64) @ 1", 1}, {"z(?0_64, ?0_65) @ 2", 2}, {"z(?0_0, ?0_1) @ 3", 0}, {"?1_0 = ?0_64", 1}, {"?1_0 = f(?0_64, ?0_65, ?0_66)", 3}, {"?1_0 = ?0_3", 0}, {"?1_0 = a", 0}, {"?0_64", 1},
	} {
		for room := range 4 {
			n := exporting(t, most+8, most-room)
			do(t, n, "recv 1 ship 1.0 ?0_64 = (?1_0 = a) ; 1", "step", "recv 1 ship 1.0 "+c.goal+" ; 1")
			if c.goal != "?0_64" { // else it stands for an equation
				n = exporting(t, most+8, most-room)
				do(t, n, "recv 1 ship 1.0 "+c.goal+" ; 1")
			}
			if c.more > room {
				refuses(t, n, api.ErrExports, api.Event{Kind: api.Step})
				continue
			}
			if got := do(t, n, "step"); strings.Contains(got, "error") || exported(n) != most-room+c.more {
				t.Errorf("%s, room for %d: %s, %d exported", c.goal, room, got, exported(n))
			}
		}
	}
	// A value that is told to those that wait, or that was asked for.
	for room := range 3 {
		n := exporting(t, most+8, most-room)
		do(t, n, "recv 2 read ?0_70 ; 1", "recv 3 read ?0_70 ; 1", "recv 1 ship 1.0 ?0_70 = f(?0_64, ?0_65) ; 1")
		if room < 2 {
			refuses(t, n, api.ErrExports, api.Event{Kind: api.Step})
		} else if got := do(t, n, "step"); exported(n) != most {
			t.Error(got)
		}
		n = exporting(t, most+8, most-room)
		do(t, n, "recv 1 ship 1.0 ?0_70 = f(?0_64, ?0_65) ; 1", "step")
		if room < 2 {
			refuses(t, n, api.ErrExports, receive(t, 2, "read ?0_70 ; 1"))
		} else if got := do(t, n, "recv 2 read ?0_70 ; 1"); exported(n) != most {
			t.Error(got)
		}
	}
}

func exported(n *node.Node) int {
	var l []api.Name
	for _, c := range n.Exports() {
		l = append(l, c.Var)
	}
	return len(slices.Compact(l))
}

// TestExportsAndCredit: credit that has an error is told ahead of exports that are too many.
func TestExportsAndCredit(t *testing.T) {
	n := exporting(t, api.MaxExports+8, api.MaxExports)
	do(t, n, "recv 1 ship 1.0 z(?0_64) @ 1 ; 3", "recv 1 return 0 0 ; 2147483575")
	collected, _ := n.Collected()
	if collected.Whole+2 <= 1<<31-1 {
		do(t, n, fmt.Sprintf("recv 1 return 0 0 ; %d", 1<<31-1-collected.Whole-1))
	}
	refuses(t, n, api.ErrFull, api.Event{Kind: api.Step})
	refuses(t, n, api.ErrFull, receive(t, 1, "ship 1.1 true ; 2147483647"))
	do(t, n, "recv 1 ship 1.1 true ; 1")
	refuses(t, n, api.ErrExports, api.Event{Kind: api.Step}) // the queue is not empty behind it, so that nothing goes back
	if n.Credit().Whole != 4 {
		t.Error(n.Credit())
	}
}
