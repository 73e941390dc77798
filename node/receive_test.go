package node_test

import (
	"fmt"
	"math"
	"slices"
	"testing"

	"purlin/api"
)

func receive(t testing.TB, from int, message string) api.Event {
	t.Helper()
	return api.Event{Kind: api.Receive, From: from, Bytes: bytesOf(t, messageOf(t, message))}
}

// TestReceiveErrors: each of them, and, where several apply, the one that is named first.
func TestReceiveErrors(t *testing.T) {
	full := "2147483647"
	n := made(t, "", 1, 3, 100, 8)
	do(t, n, "recv 0 ship 0.0 make ; "+full) // so that credit that comes is too much
	bad := []byte{9, 9}
	for _, from := range []int{math.MinInt, -1, 1, 3, 4, math.MaxInt} {
		refuses(t, n, api.ErrRange, receive(t, from, "read ?1_0 ; 0+1"), receive(t, from, "read ?3_0 ; 1"), api.Event{Kind: api.Receive, From: from, Bytes: bad})
	}
	right := bytesOf(t, messageOf(t, "ship 0.1 make ; 0+1"))
	long := append(right, make([]byte, api.MaxMessage)...)
	for _, b := range [][]byte{nil, {}, bad, right[:len(right)-1], append(slices.Clone(right), 0), long, {1, 1, 0, 0, 0}, {3, 0, 0, 1, 4, 255, 0, 1, 0}} {
		refuses(t, n, api.ErrBytes, api.Event{Kind: api.Receive, From: 0, Bytes: b})
	}
	for _, c := range []struct {
		want     api.Errno
		messages []string
	}{
		{api.ErrForm, []string{ // of a node that there is not
			"read ?3_0 ; 1", "value ?3_0 a ; 1", "value ?0_0 f(?1_0, ?3_0) ; 1", "ship 3.0 make ; 1", "ship 0.0 f(?3_1) ; 1", "add ?3_0 0", "release ?3_0 1",
		}},
		{api.ErrForm, []string{ // own, and not made yet
			"read ?1_8 ; 1", "value ?1_8 a ; 1", "value ?0_0 f(?1_7, ?1_8) ; 1", "ship 0.0 f(?1_2147483647) ; 1", "ship 0.0 ?1_8 ; 1", "add ?1_8 0", "release ?1_9 1",
		}},
		{api.ErrForm, []string{"add ?1_0 1", "add ?1_0 3", "add ?0_0 1", "add ?0_0 3"}}, // holders that cannot be
		{api.ErrOwner, []string{
			"read ?0_0 ; 1", "read ?2_99 ; 1", "add ?0_0 2", "add ?2_0 0", "release ?0_0 1", "release ?2_0 2147483647", "value ?1_0 a ; 1", "value ?1_7 ?1_0 ; 1", "return 0 0 ; 1", "return 7 3 ; " + full,
		}},
		{api.ErrOrder, []string{"value ?0_0 ?0_0 ; 1", "value ?0_0 ?0_1 ; 1", "value ?0_0 ?1_0 ; 1", "value ?0_0 ?2_0 ; 1", "value ?2_0 ?2_0 ; 1"}},
		{api.ErrFull, []string{"read ?1_0 ; 1", "value ?0_0 a ; 1", "ship 0.0 make ; 1", "value ?0_1 ?0_0 ; 1"}},
	} {
		for _, s := range c.messages {
			for _, from := range []int{0, 2} {
				refuses(t, n, c.want, receive(t, from, s))
			}
		}
	}
	// Less than a unit is not too much.
	if got := do(t, n, "recv 2 value ?0_1 ?0_0 ; 0+1"); got != "" {
		t.Error(got)
	}
	is(t, n, "credit 2147483647+1", "knows ?0_1 := ?0_0")
	// What has a value has no error of the map: the value that comes plays no part.
	do(t, n, "recv 2 value ?0_1 ?2_0 ; 0+2", "recv 2 value ?0_1 ?0_1 ; 0+3", "recv 2 value ?0_1 f(?0_1) ; 0+4")
	is(t, n, "credit 2147483647+1+2+3+4", "knows ?0_1 := ?0_0", "in ?0_0 0 1 & ?0_1 0 2 & ?2_0 2 1")
}

// TestReceiveAtTheFirst: what a message has not is 0, and names no variable of node 0; Return is taken there alone.
func TestReceiveAtTheFirst(t *testing.T) {
	n := nodeOf(t, "p.", 0, 2, 100)
	script(t, n, "recv 1 ship 1.0 p ; 1", "", "recv 1 return 3 2 ; 0+5", "")
	is(t, n, "queue 1.0 p", "credit 1", "collected 0+5 of 0")
	refuses(t, n, api.ErrForm, receive(t, 1, "read ?0_0 ; 1"), receive(t, 1, "ship 2.0 p ; 1"), receive(t, 1, "release ?0_0 1"), receive(t, 1, "add ?0_0 1"))
	one := nodeOf(t, "p.", 0, 1, 100)
	for from := range 5 {
		refuses(t, one, api.ErrRange, receive(t, from, "ship 0.0 p ; 1"))
	}
}

func TestReceiveRead(t *testing.T) {
	n := made(t, "z.", 1, 4, 100, 8)
	do(t, n, "recv 0 ship 0.0 ?1_1 = ?1_0 ; 1", "step", "recv 0 ship 0.0 z ; 1")
	script(t, n,
		"recv 2 read ?1_1 ; 0+1", "2: value ?1_1 ?1_0 ; 0+1", // as it stands, not followed
		"recv 2 read ?1_1 ; 0+1", "2: value ?1_1 ?1_0 ; 0+1",
		"recv 2 read ?1_0 ; 0+1", "",
		"recv 3 read ?1_0 ; 0+1", "",
		"recv 2 read ?1_0 ; 0+2", "")
	is(t, n, "credit 2+2", "out ?1_0 2 2")
	do(t, n, "recv 0 ship 0.1 ?1_0 = 5 ; 1", "step")
	script(t, n, "step", "0.1 ?1_0 = 5 => ?1_0 := 5 / 2: value ?1_0 5 ; 0+2 / 3: value ?1_0 5 ; 1 / 0: return 0 0 ; 2")
}

func TestReceiveValue(t *testing.T) {
	n := made(t, "v(X) :- known(X) | true.", 1, 4, 100, 8)
	script(t, n, "recv 0 ship 0.0 v(?2_0) ; 1", "", "step", "2: read ?2_0 ; 0+1 / 0: return 1 0 ; 0+1",
		// Each variable counts once, own ones not; it goes back what is not needed.
		"recv 3 value ?2_9 f(?0_1, ?1_1, ?3_3, ?0_1, ?2_0) ; 0+7", "0: return 1 0 ; 0+7",
		"recv 2 value ?2_0 ?0_4 ; 0+1", "",
		"step", "0: read ?0_4 ; 0+2 / 0: return 1 0 ; 0+2",
		// It comes again, with another value: the first one stays, references count.
		"recv 2 value ?2_0 f(?0_4) ; 0+1", "0: return 1 0 ; 0+1",
		"recv 0 value ?0_4 7 ; 0+1", "",
		"step", "0.0 v(?2_0) => by 0 & 1.1 true")
	is(t, n, "knows ?0_4 := 7 & ?2_0 := ?0_4 & ?2_9 := f(?0_1, ?1_1, ?3_3, ?0_1, ?2_0)", "in ?0_1 0 1 & ?0_4 0 2 & ?2_0 2 2 & ?3_3 3 1", "out ")
}

// TestValueThatIsNotWanted: behind a value that came the variable is not wanted: it is asked for again, when it has none.
func TestValueThatIsNotWanted(t *testing.T) {
	n := nodeOf(t, "v(a, X). w(b).", 1, 2, 100)
	do(t, n, "recv 0 ship 0.0 v(?0_0, 1) ; 1", "step")
	script(t, n, "recv 0 ship 0.1 w(?0_0) ; 1", "", "step", "0: return 2 0 ; 1",
		"recv 0 value ?0_0 a ; 1", "", "step", "0.0 v(?0_0, 1) => by 0", "step", "0.1 w(?0_0) => fails / 0: return 0 1 ; 1")
}

func TestReceiveShip(t *testing.T) {
	n := made(t, "z.", 2, 3, 100, 8)
	script(t, n, "recv 0 ship 1.7 f(?0_1, ?2_1, ?1_1, ?0_1) ; 1+3", "", "recv 1 ship 1.7 ?0_1 ; 0+3", "", "recv 1 ship 2.0 -5 ; 0+3", "")
	is(t, n, "queue 1.7 f(?0_1, ?2_1, ?1_1, ?0_1) & 1.7 ?0_1 & 2.0 -5", "credit 1+2+3", "in ?0_1 0 2 & ?1_1 1 1", "out ", "left 98")
	none := nodeOf(t, "z.", 2, 3, 0)
	script(t, none, "recv 0 ship 0.0 z ; 1", "0: return 0 2 ; 1", "recv 0 ship 0.1 ?0_0 ; 1", "0: return 0 2 ; 1")
	is(t, none, "queue 0.0 z & 0.1 ?0_0", "credit 0", "left 0", "in ?0_0 0 1")
}

func TestReceiveAddAndRelease(t *testing.T) {
	n := made(t, "", 1, 4, 100, 8)
	script(t, n, "recv 0 add ?1_0 2", "", "recv 3 add ?1_0 0", "", "recv 3 add ?1_0 2", "", "recv 2 release ?1_0 1", "")
	is(t, n, "out ?1_0 0 1 & ?1_0 2 1")
	script(t, n, "recv 2 release ?1_0 1", "", "recv 0 release ?1_0 1", "")
	is(t, n, "out ")
	script(t, n, "recv 3 release ?1_7 2147483647", "", "recv 3 release ?1_7 2147483647", "", "recv 3 release ?1_7 2", "", "recv 0 add ?1_7 3", "")
	is(t, n, "out ?1_7 3 -4294967295", "in ", "credit 0")
	// A node that sends of its own holds may be added by itself.
	script(t, n, "recv 2 add ?1_1 2", "")
	is(t, n, "out ?1_1 2 1 & ?1_7 3 -4294967295")
}

// TestReceiveReturn: credit is collected, not gained; the last report of each node counts.
func TestReceiveReturn(t *testing.T) {
	n := nodeOf(t, "p.", 0, 4, 100)
	do(t, n, "submit p")
	script(t, n, "recv 2 return 7 2 ; 0+3", "", "recv 3 return 1 0 ; 0+3", "", "recv 2 return 2147483647 0 ; 0+2", "")
	is(t, n, "credit 1", "collected 0+1 of 1", "queue 0.0 p", fmt.Sprint("verdict ", api.Running))
	full := nodeOf(t, "p.", 0, 2, 100)
	do(t, full, "recv 1 return 0 1 ; 2147483647")
	refuses(t, full, api.ErrFull, receive(t, 1, "return 9 2 ; 1"))
	do(t, full, "recv 1 return 0 1 ; 0+1")
	refuses(t, full, api.ErrFull, receive(t, 1, "return 9 2 ; 0+1"))
	is(t, full, "collected 2147483647+1 of 0")
}

// TestErrorsAtTheEnd: credit that goes back at the end is too much: nothing of the event has happened.
func TestErrorsAtTheEnd(t *testing.T) {
	n := made(t, "w(a, b).", 0, 3, 100, 8)
	do(t, n, "recv 1 ship 1.0 ?0_1 = f(?0_2) ; 1", "step")
	collected, _ := n.Collected()
	do(t, n, fmt.Sprintf("recv 1 return 0 0 ; %d", 1<<31-1-collected.Whole))
	refuses(t, n, api.ErrFull, receive(t, 1, "read ?0_0 ; 1"), receive(t, 1, "read ?0_1 ; 2"), receive(t, 1, "value ?1_0 f(?2_0, ?0_1) ; 1"))
	do(t, n, "recv 1 ship 1.1 w(?1_0, ?2_0) ; 3")
	refuses(t, n, api.ErrFull, api.Event{Kind: api.Step})
	do(t, n, "recv 1 read ?0_0 ; 1", "recv 1 ship 1.2 ?0_0 = g(?0_3) ; 1")
	script(t, n, "step", "1: read ?1_0 ; 1 / 2: read ?2_0 ; 1")
	refuses(t, n, api.ErrFull, api.Event{Kind: api.Step})
	is(t, n, "queue 1.2 ?0_0 = g(?0_3)", "waits 1.1 w(?1_0, ?2_0)", "credit 3", "out ")
	other := n.Fork()
	do(t, other, "recv 1 ship 1.3 true ; 0+1")
	script(t, other, "step", "1.2 ?0_0 = g(?0_3) => ?0_0 := g(?0_3) / 1: value ?0_0 g(?0_3) ; 0+1")
}
