package node_test

import (
	"fmt"
	"testing"

	"purlin/api"
)

// TestStepsThatCannotBe: ErrIdle is told ahead of ErrFuel.
func TestStepsThatCannotBe(t *testing.T) {
	step := api.Event{Kind: api.Step}
	n := nodeOf(t, "p :- p. q(a).", 0, 2, 0)
	refuses(t, n, api.ErrIdle, step)
	do(t, n, "submit p")
	refuses(t, n, api.ErrFuel, step, step)
	n = nodeOf(t, "p :- p. q(a).", 0, 2, 1)
	refuses(t, n, api.ErrIdle, step)
	do(t, n, "submit q(X)", "step")
	refuses(t, n, api.ErrIdle, step) // what waits is not in the queue
	do(t, n, "submit p", "step")
	refuses(t, n, api.ErrFuel, step)
	is(t, n, "queue 0.2 p", "waits 0.0 q(?0_0)", "left 0")
}

// TestGoalsGoInTheirOrder: what comes goes behind all that is there.
func TestGoalsGoInTheirOrder(t *testing.T) {
	n := nodeOf(t, "p :- q, r. q :- s. r. s.", 0, 1, 100)
	script(t, n, "submit p", "", "submit q", "", "submit r", "",
		"step", "0.0 p => by 0 & 0.3 q & 0.4 r",
		"step", "0.1 q => by 1 & 0.5 s")
	is(t, n, "queue 0.2 r & 0.3 q & 0.4 r & 0.5 s", "credit 3", "left 98")
}

// TestWaiting: goals that wait are behind one another; a value is asked for once; what wakes goes to the queue's end.
func TestWaiting(t *testing.T) {
	n := nodeOf(t, "w(a, b, X). v(X) :- X > 0 | true. z.", 1, 3, 100)
	do(t, n, "recv 0 ship 0.0 w(?0_0, ?2_0, 1) ; 1", "recv 0 ship 0.1 v(?2_0) ; 1", "recv 0 ship 0.2 w(?2_1, ?0_0, 2) ; 1", "recv 0 ship 0.3 z ; 1")
	script(t, n,
		"step", "0: read ?0_0 ; 1 / 2: read ?2_0 ; 1",
		"step", "",
		"step", "2: read ?2_1 ; 1",
		"recv 2 value ?2_0 ?0_0 ; 1", "")
	is(t, n, "queue 0.3 z & 0.0 w(?0_0, ?2_0, 1) & 0.1 v(?2_0)", "waits 0.2 w(?2_1, ?0_0, 2)", "credit 2", "left 100", "in ?0_0 0 3 & ?2_0 2 2 & ?2_1 2 1")
	script(t, n,
		"step", "0.3 z => by 2",
		"step", "", // for ?0_0 alone, which is wanted
		"step", "0: return 3 0 ; 2")
	is(t, n, "queue ", "waits 0.2 w(?2_1, ?0_0, 2) & 0.0 w(?0_0, ?2_0, 1) & 0.1 v(?2_0)", "credit 0")
	script(t, n, "recv 2 value ?2_1 a ; 0+1", "", "step", "0: return 3 0 ; 0+1")
	is(t, n, "waits 0.0 w(?0_0, ?2_0, 1) & 0.1 v(?2_0) & 0.2 w(?2_1, ?0_0, 2)")
	script(t, n, "recv 0 value ?0_0 b ; 0+3", "",
		"step", "0.0 w(?0_0, ?2_0, 1) => fails",
		"step", "0.1 v(?2_0) => fails",
		"step", "0.2 w(?2_1, ?0_0, 2) => by 0 / 0: return 0 1 ; 0+3")
}

// TestWantedAgain: a value that came, and is wanted again, as it was let go, is asked for again.
func TestWantedAgain(t *testing.T) {
	n := nodeOf(t, "v(a).", 1, 2, 100)
	script(t, n, "recv 0 ship 0.0 v(?0_7) ; 1", "", "step", "0: read ?0_7 ; 0+1 / 0: return 1 0 ; 0+1",
		"recv 0 value ?0_7 a ; 1", "", "step", "0.0 v(?0_7) => by 0 / 0: return 0 0 ; 1",
		"collect", "0: release ?0_7 1",
		"recv 0 ship 0.1 v(?0_7) ; 1", "", "step", "0: read ?0_7 ; 0+1 / 0: return 1 0 ; 0+1")
}

// TestValuesAreTold: to those that asked, in their order, with the variables carried to each; then goals that wait go.
func TestValuesAreTold(t *testing.T) {
	n := made(t, "v(a, X).", 1, 4, 100, 8)
	do(t, n, "recv 0 ship 0.0 v(?1_0, 1) ; 1", "recv 0 ship 0.1 v(?1_1, 2) ; 1", "recv 0 ship 0.2 v(?1_0, 3) ; 1", "step", "step", "step")
	do(t, n, "recv 3 read ?1_0 ; 0+1", "recv 0 read ?1_0 ; 0+1", "recv 3 read ?1_0 ; 0+1", "recv 2 read ?1_1 ; 0+1", "recv 2 read ?1_0 ; 0+1")
	is(t, n, "credit 0", "queue ", "waits 0.0 v(?1_0, 1) & 0.1 v(?1_1, 2) & 0.2 v(?1_0, 3)")
	script(t, n, "recv 0 ship 0.3 ?1_0 = f(?0_1, ?1_2, ?3_3) ; 1", "",
		"step", "0.3 ?1_0 = f(?0_1, ?1_2, ?3_3) => ?1_0 := f(?0_1, ?1_2, ?3_3)"+
			" / 0: add ?0_1 3 / 3: value ?1_0 f(?0_1, ?1_2, ?3_3) ; 0+1"+
			" / 3: add ?3_3 0 / 0: value ?1_0 f(?0_1, ?1_2, ?3_3) ; 0+2"+
			" / 0: add ?0_1 2 / 3: add ?3_3 2 / 2: value ?1_0 f(?0_1, ?1_2, ?3_3) ; 0+3")
	is(t, n, "credit 0+3", "queue 0.0 v(?1_0, 1) & 0.2 v(?1_0, 3)", "waits 0.1 v(?1_1, 2)", "out ?1_2 0 1 & ?1_2 2 1 & ?1_2 3 1")
	// Whoever was told waits no more. The value is told as the equation has it, followed.
	script(t, n, "step", "0.0 v(?1_0, 1) => fails", "step", "0.2 v(?1_0, 3) => fails / 0: return 1 1 ; 0+3",
		"recv 0 ship 0.4 ?1_0 = ?1_1 ; 1", "", "step", "0.4 ?1_0 = ?1_1 => ?1_1 := f(?0_1, ?1_2, ?3_3) / 0: add ?0_1 2 / 3: add ?3_3 2 / 2: value ?1_1 f(?0_1, ?1_2, ?3_3) ; 0+1")
	is(t, n, "queue 0.1 v(?1_1, 2)", "waits ")
}

// TestTooLong: a body that is too long, an equation's parts that are: the goal fails, and no number is used.
func TestTooLong(t *testing.T) {
	program := "long(X) :- m(Y, Z), m(X, X, Y), m(Z). m(X). m(X, Y). m(X, Y, Z)."
	long := func(cells int) string { return textOf(structure("long", nested(cells, number(1)))) }
	n := nodeOf(t, program, 0, 1, 100)
	script(t, n, "submit "+long(127), "",
		"step", "0.0 "+long(127)+" => by 0 & new ?0_0 & new ?0_1 & 0.1 m(?0_0, ?0_1) & 0.2 "+textOf(structure("m", nested(127, number(1)), nested(127, number(1)), variable(0, 0)))+" & 0.3 m(?0_1)",
		"submit "+long(128), "", "submit long(1)", "", "step", "0.1 m(?0_0, ?0_1) => by 2")
	do(t, n, "step", "step")
	script(t, n, "step", "0.4 "+long(128)+" => fails & by 0", "step", "0.5 long(1) => by 0 & new ?0_2 & new ?0_3 & 0.6 m(?0_2, ?0_3) & 0.7 m(1, 1, ?0_2) & 0.8 m(?0_3)")
	is(t, n, fmt.Sprint("verdict ", api.Failed), "left 94")

	for cells, fits := range map[int]bool{127: true, 128: false} {
		n := made(t, "", 0, 2, 100, 8)
		for i, size := range []int{cells, 128} {
			do(t, n, fmt.Sprintf("recv 1 ship 1.0 ?0_%d = %s ; 1", i, textOf(structure("g", nested(size, number(1)), number(2)))), "step")
		}
		want := "1.1 ?0_0 = ?0_1 => fails"
		if fits {
			want = "1.1 ?0_0 = ?0_1 => 0.1 " + textOf(structure("=", nested(cells, number(1)), nested(128, number(1)))) + " & 0.2 2 = 2"
		}
		script(t, n, "recv 1 ship 1.1 ?0_0 = ?0_1 ; 1", "", "step", want)
	}
}
