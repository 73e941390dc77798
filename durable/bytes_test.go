package durable_test

import (
	"bytes"
	"fmt"
	"math"
	"math/rand"
	"slices"
	"strings"
	"testing"

	"purlin/api"
	"purlin/durable"
	"purlin/syntax"
	"purlin/term"
)

func sameEvent(a, b api.Event) bool {
	return a.Kind == b.Kind && a.From == b.From && bytes.Equal(a.Bytes, b.Bytes) && term.Equal(a.Term, b.Term)
}

// goesThereAndBack is P20.8 of an event with these bytes.
func goesThereAndBack(t testing.TB, e api.Event, want []byte) {
	t.Helper()
	b, errno := durable.Encode(e)
	if errno != api.OK || !bytes.Equal(b, want) {
		t.Errorf("Encode(%v): %v, %v; want %v", e, b, errno, want)
	}
	if again, errno := durable.Decode(want); errno != api.OK || !sameEvent(again, e) {
		t.Errorf("Decode(%v): %v, %v; want %v", want, again, errno, e)
	}
}

func TestBytes(t *testing.T) {
	goesThereAndBack(t, step(), []byte{1})
	goesThereAndBack(t, collect(), []byte{4})
	long := bytes.Repeat([]byte{7}, api.MaxMessage)
	for from := range api.MaxNodes {
		for _, b := range [][]byte{nil, {}, {0}, {255, 0, 1}, shipped(t, "p(1)"), long} {
			goesThereAndBack(t, api.Event{Kind: api.Receive, From: from, Bytes: b}, append([]byte{2, byte(from)}, b...))
		}
	}
	for _, s := range []string{
		"p", "true", "p(X0, X1)", "p(X0, f(X1, X0), X2)", "1", "-2147483648", "X0", "?3_17", "p(?0_1, X0)", "a = (b @ 1)", "1 - (2 - 3) * X0", "(p @ 1) @ 2", "X0 := X1 + ?2_1099511627776",
		"p(X0, X1, X2, X3, X4, X5, X6, f(X7, X8, X9, X10, X11, X12, X13, X14))", "p(X0, X1, X2, X3, X4, X5, X6, f(X7, X8, X9, X10, X11, X12, X13, g(X14, X15)))",
	} {
		goesThereAndBack(t, submit(t, s), append([]byte{3}, s...))
	}
	deep := append(slices.Repeat(api.Term{{Kind: api.Struct, Text: "abcdefghijklmnop", N: 1}}, api.MaxCells-1), number(1)...)
	text, _ := syntax.Print(deep)
	goesThereAndBack(t, api.Event{Kind: api.Submit, Term: deep}, append([]byte{3}, text...))
}

// TestMayNotBeRecorded: what an event has not is 0 or empty; each number and list just outside its bounds.
func TestMayNotBeRecorded(t *testing.T) {
	var seventeen []api.Term
	for i := range 8 {
		seventeen = append(seventeen, variable(-1, i))
	}
	seventeen[7] = structure("f", variable(-1, 7), variable(-1, 8), variable(-1, 9), variable(-1, 10), variable(-1, 11), variable(-1, 12), structure("f", variable(-1, 13), variable(-1, 14)), structure("f", variable(-1, 15), variable(-1, 16)))
	l := []api.Event{
		{}, {Kind: 5}, {Kind: 255}, {Kind: 0, Term: atom("p")},
		{Kind: api.Step, From: 1}, {Kind: api.Step, From: -1}, {Kind: api.Step, Bytes: []byte{0}}, {Kind: api.Step, Term: atom("p")},
		{Kind: api.Collect, From: 1}, {Kind: api.Collect, From: math.MinInt}, {Kind: api.Collect, Bytes: []byte{0}}, {Kind: api.Collect, Term: number(0)},
		{Kind: api.Receive, From: -1}, {Kind: api.Receive, From: api.MaxNodes}, {Kind: api.Receive, From: 256}, {Kind: api.Receive, From: math.MinInt}, {Kind: api.Receive, From: math.MaxInt},
		{Kind: api.Receive, From: 1, Term: atom("p")}, {Kind: api.Receive, From: 1, Bytes: make([]byte, api.MaxMessage+1)},
		{Kind: api.Submit, From: 1, Term: atom("p")}, {Kind: api.Submit, From: -1, Term: atom("p")}, {Kind: api.Submit, Bytes: []byte{0}, Term: atom("p")},
	}
	for _, x := range []api.Term{
		nil, {}, {{}}, atom("A"), atom(""), structure("p"), number(api.MaxNumber + 1), append(atom("a"), atom("b")...), variable(-2, 0), variable(api.MaxNodes, 0),
		variable(-1, 1), structure("p", variable(-1, 1), variable(-1, 0)), structure("p", variable(-1, 0), variable(-1, 2)), variable(-1, math.MaxInt), variable(0, 1<<40+1), structure("p", seventeen...),
	} {
		l = append(l, api.Event{Kind: api.Submit, Term: x})
	}
	for _, e := range l {
		if b, errno := durable.Encode(e); errno != api.ErrForm || len(b) > 0 {
			t.Errorf("Encode(%.90v): %v, %v", fmt.Sprint(e), b, errno)
		}
	}
	// Lists that are empty are none.
	for _, e := range []api.Event{{Kind: api.Step, Bytes: []byte{}, Term: api.Term{}}, {Kind: api.Receive, Term: api.Term{}}, {Kind: api.Submit, Bytes: []byte{}, Term: atom("p")}} {
		if _, errno := durable.Encode(e); errno != api.OK {
			t.Errorf("Encode(%v): %v", e, errno)
		}
	}
}

func TestBytesOfNoEvent(t *testing.T) {
	l := [][]byte{
		nil, {}, {0}, {5}, {255}, {1, 1}, {1, 0}, {4, 0}, {4, 4}, {2}, {2, 4}, {2, 255, 1}, append([]byte{2, 1}, make([]byte, api.MaxMessage+1)...), {3}, {3, 0},
		append([]byte{3}, make([]byte, api.MaxText+1)...), append([]byte{3}, strings.Repeat(" ", api.MaxText)+"p"...),
	}
	for _, s := range []string{
		" p", "p ", "p\n", "p % x", "p( X0)", "p(X0,X1)", "p(X)", "p(X1)", "p(X1, X0)", "p(_)", "p(X0, _)", "X", "(p)", "p(X00)", "p(X0, X2)", "P", "p(", "p)", "p.", "p :- q", "p, q", "07", "-0", "- 1", "1 -(2)", "a=b", "a = b @ 1 @ 2",
		"((a = b))", "2147483649", "?4_0", "?0_01", "?0_1099511627777", "p(1, 2, 3, 4, 5, 6, 7, 8, 9)", "abcdefghijklmnopq", "p(X0)X", "\xff", "p\x00",
	} {
		l = append(l, append([]byte{3}, s...))
	}
	for _, b := range l {
		if e, errno := durable.Decode(b); errno != api.ErrForm || !sameEvent(e, api.Event{}) {
			t.Errorf("Decode(%.60q): %v, %v", b, e, errno)
		}
	}
}

// TestDecodeOfAnyBytes is P20.8: Encode of what Decode takes is what was read; neither changes or keeps what is handed in.
func TestDecodeOfAnyBytes(t *testing.T) {
	r := rand.New(rand.NewSource(20))
	taken := map[api.EventKind]int{}
	texts := []string{"p", "p(X0, X1)", "f(X0, g(X0, a), -3)", "X0 = f(X1)", "q(1) @ X0", "a := 1 + 2 * X0", "?1_3"}
	for range 30000 {
		var b []byte
		switch r.Intn(4) {
		case 0:
			b = append([]byte{3}, texts[r.Intn(len(texts))]...)
		case 1:
			b = []byte{byte(r.Intn(6))}
		default:
			b = make([]byte, 1+r.Intn(6))
			r.Read(b)
			b[0] %= 6
			if len(b) > 1 {
				b[1] %= 7
			}
		}
		if len(b) > 1 && r.Intn(3) == 0 {
			b[1+r.Intn(len(b)-1)] = "X01 ,()pf=-_"[r.Intn(12)]
		}
		handed := append(slices.Clone(b), 0xaa, 0xaa)
		e, errno := durable.Decode(handed[:len(b)])
		if !bytes.Equal(handed, append(slices.Clone(b), 0xaa, 0xaa)) {
			t.Fatal("what was handed in has changed")
		}
		if errno != api.OK {
			if errno != api.ErrForm || !sameEvent(e, api.Event{}) {
				t.Fatal(b, e, errno)
			}
			continue
		}
		taken[e.Kind]++
		clear(handed)
		again, errno := durable.Encode(e)
		if errno != api.OK || !bytes.Equal(again, b) {
			t.Fatalf("%v is read as %v, which is written as %v, %v", b, e, again, errno)
		}
		was := api.Event{Kind: e.Kind, From: e.From, Bytes: bytes.Clone(e.Bytes), Term: slices.Clone(e.Term)}
		clear(again[:cap(again)])
		if !sameEvent(was, e) {
			t.Fatal("what was answered lies in what was handed in")
		}
	}
	for k := api.Step; k <= api.Collect; k++ {
		if taken[k] < 100 {
			t.Errorf("kind %d: %d times alone", k, taken[k])
		}
	}
}
