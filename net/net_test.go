package net_test

import (
	"bytes"
	"math"
	"slices"
	"strings"
	"testing"

	"purlin/api"
	"purlin/net"
)

// The calls have the forms that chapter 12 lists.
var (
	_ func(int) (*net.Net, api.Errno)                        = net.New
	_ func(*net.Net, ...api.Datagram) api.Errno              = (*net.Net).Send
	_ func(*net.Net, int) (api.Datagram, api.Errno)          = (*net.Net).Deliver
	_ func(*net.Net, int) api.Errno                          = (*net.Net).Drop
	_ func(*net.Net, int) api.Errno                          = (*net.Net).Double
	_ func(*net.Net) []api.Datagram                          = (*net.Net).Waiting
	_ func(*net.Net, int) []int                              = (*net.Net).To
	_ func(*net.Net) int                                     = (*net.Net).Len
	_ func(*net.Net) (sent, delivered, dropped, doubled int) = (*net.Net).Counts
	_ func(*net.Net) *net.Net                                = (*net.Net).Fork
	_ interface {
		Send(l ...api.Datagram) api.Errno
	} = (*net.Net)(nil)
	_ interface {
		Counts() (sent, delivered, dropped, doubled int)
	} = (*net.Net)(nil)
	_ interface {
		Deliver(k int) (datagram api.Datagram, e api.Errno)
	} = (*net.Net)(nil)
)

func made(t *testing.T, nodes int) *net.Net {
	t.Helper()
	n, e := net.New(nodes)
	if e != api.OK || n == nil {
		t.Fatal(nodes, e)
	}
	return n
}

// of is a datagram whose Bytes are a text; with none it is an Ack.
func of(from, to, seq int, text string) api.Datagram {
	return api.Datagram{From: from, To: to, Ack: text == "", Seq: seq, Bytes: []byte(text)}
}

func same(a, b api.Datagram) bool {
	return a.From == b.From && a.To == b.To && a.Ack == b.Ack && a.Seq == b.Seq && bytes.Equal(a.Bytes, b.Bytes)
}

func texts(l []api.Datagram) string {
	var s []string
	for _, d := range l {
		s = append(s, string(d.Bytes))
	}
	return strings.Join(s, " ")
}

// tells holds what a network tells against the texts of those that wait, and the counts.
func tells(t *testing.T, n *net.Net, waiting string, counts ...int) {
	t.Helper()
	if got := texts(n.Waiting()); got != waiting || n.Len() != len(strings.Fields(waiting)) {
		t.Errorf("waiting: %s, %d; want %s", got, n.Len(), waiting)
	}
	a, b, c, d := n.Counts()
	if !slices.Equal([]int{a, b, c, d}, counts) {
		t.Errorf("Counts: %d, %d, %d, %d; want %v", a, b, c, d, counts)
	}
}

func send(t *testing.T, n *net.Net, l ...api.Datagram) {
	t.Helper()
	if e := n.Send(l...); e != api.OK {
		t.Errorf("Send(%v): %v", l, e)
	}
}

func deliver(t *testing.T, n *net.Net, k int, want api.Datagram) {
	t.Helper()
	if d, e := n.Deliver(k); e != api.OK || !same(d, want) {
		t.Errorf("Deliver(%d): %v, %v; want %v", k, d, e, want)
	}
}

func TestExamples(t *testing.T) {
	n := made(t, 2)
	a, b, c := of(0, 1, 0, "a"), of(0, 1, 1, "b"), of(1, 0, 0, "c")
	send(t, n, a, b, c)
	deliver(t, n, 1, b)
	deliver(t, n, 1, c)
	tells(t, n, "a", 3, 2, 0, 0)
	n = made(t, 2)
	send(t, n, a, b)
	if e := n.Double(0); e != api.OK {
		t.Error(e)
	}
	tells(t, n, "a b a", 2, 0, 0, 1)
	if l := n.Waiting(); len(l) != 3 || !same(l[2], a) {
		t.Error(l)
	}
	if e := n.Send(of(0, 0, 0, "a")); e != api.ErrRange {
		t.Error(e)
	}
	tells(t, n, "a b a", 2, 0, 0, 1)
}

func TestNew(t *testing.T) {
	for _, k := range []int{math.MinInt, -1, 0, api.MaxNodes + 1, 100, math.MaxInt} {
		if n, e := net.New(k); e != api.ErrRange || n != nil {
			t.Errorf("New(%d): %v, %v", k, n, e)
		}
	}
	for k := 1; k <= api.MaxNodes; k++ {
		n := made(t, k)
		tells(t, n, "", 0, 0, 0, 0)
		for to := range k {
			if l := n.To(to); len(l) > 0 {
				t.Error(l)
			}
		}
	}
}

// TestWhoMaySend goes through all pairs of nodes, those that are none too, in networks of each size.
func TestWhoMaySend(t *testing.T) {
	some := []int{math.MinInt, -1, 0, 1, 2, 3, 4, 5, math.MaxInt}
	for nodes := 1; nodes <= api.MaxNodes; nodes++ {
		for _, from := range some {
			for _, to := range some {
				n := made(t, nodes)
				want := api.OK
				if from < 0 || from >= nodes || to < 0 || to >= nodes || from == to {
					want = api.ErrRange
				}
				for _, d := range []api.Datagram{of(from, to, 0, ""), of(from, to, math.MaxInt, "a"), {From: from, To: to}} {
					if e := n.Send(d); e != want {
						t.Errorf("of %d nodes, Send(%v): %v, want %v", nodes, d, e, want)
					}
				}
				if want != api.OK {
					tells(t, n, "", 0, 0, 0, 0)
				}
			}
		}
	}
}

// TestWhatMayBeSent has the edges of Seq and Bytes, and which error is told first.
func TestWhatMayBeSent(t *testing.T) {
	just, more := strings.Repeat("x", api.MaxMessage), strings.Repeat("x", api.MaxMessage+1)
	for _, c := range []struct {
		d    api.Datagram
		want api.Errno
	}{
		{of(0, 1, 0, "a"), api.OK}, {of(1, 0, math.MaxInt, "a"), api.OK}, {of(0, 1, 0, just), api.OK}, {of(0, 1, 3, ""), api.OK},
		{api.Datagram{To: 1}, api.OK}, {api.Datagram{To: 1, Bytes: []byte{}}, api.OK}, {api.Datagram{To: 1, Ack: true, Bytes: []byte{}}, api.OK},
		{of(0, 1, -1, "a"), api.ErrRange}, {of(0, 1, math.MinInt, ""), api.ErrRange},
		{of(0, 1, 0, more), api.ErrLong}, {of(0, 1, -1, more), api.ErrRange}, {of(0, 0, 0, more), api.ErrRange},
		{api.Datagram{To: 1, Ack: true, Bytes: []byte("a")}, api.ErrForm}, {api.Datagram{To: 1, Ack: true, Bytes: []byte(more)}, api.ErrLong},
		{api.Datagram{To: 1, Ack: true, Bytes: []byte(just)}, api.ErrForm}, {api.Datagram{To: 2, Ack: true, Bytes: []byte("a")}, api.ErrRange},
		{api.Datagram{To: 1, Ack: true, Seq: -1, Bytes: []byte("a")}, api.ErrRange}, {api.Datagram{To: 2, Ack: true, Bytes: []byte(more)}, api.ErrRange},
	} {
		n := made(t, 2)
		if e := n.Send(c.d); e != c.want {
			t.Errorf("Send of %d, %d, %d, %d bytes, %v: %v, want %v", c.d.From, c.d.To, c.d.Seq, len(c.d.Bytes), c.d.Ack, e, c.want)
		}
		if c.want != api.OK {
			tells(t, n, "", 0, 0, 0, 0)
			continue
		}
		if n.Len() != 1 || !same(n.Waiting()[0], c.d) {
			t.Error(n.Len())
		}
		deliver(t, n, 0, c.d)
	}
}

// TestSeveralAtOnce: all are sent, in order, or none, and the first that may not be has the word.
func TestSeveralAtOnce(t *testing.T) {
	n := made(t, 3)
	send(t, n)
	tells(t, n, "", 0, 0, 0, 0)
	send(t, n, of(0, 1, 0, "a"), of(2, 1, 0, "b"))
	send(t, n, of(1, 0, 5, "c"))
	send(t, n)
	tells(t, n, "a b c", 3, 0, 0, 0)
	good := of(0, 1, 0, "a")
	far, long := of(0, 3, 0, "a"), of(0, 1, 0, strings.Repeat("x", api.MaxMessage+1))
	odd := api.Datagram{To: 1, Ack: true, Bytes: []byte("a")}
	for _, c := range []struct {
		l    []api.Datagram
		want api.Errno
	}{
		{[]api.Datagram{good, good, far}, api.ErrRange}, {[]api.Datagram{far, good}, api.ErrRange}, {[]api.Datagram{good, long, far}, api.ErrLong},
		{[]api.Datagram{odd, long, far}, api.ErrForm}, {[]api.Datagram{good, odd, good}, api.ErrForm}, {[]api.Datagram{long, odd}, api.ErrLong},
		{[]api.Datagram{far, odd}, api.ErrRange}, {[]api.Datagram{good, far, long, odd}, api.ErrRange},
	} {
		if e := n.Send(c.l...); e != c.want {
			t.Errorf("Send of %d: %v, want %v", len(c.l), e, c.want)
		}
		tells(t, n, "a b c", 3, 0, 0, 0)
	}
}

func TestDeliverDropDouble(t *testing.T) {
	n := made(t, 4)
	l := []api.Datagram{of(0, 1, 0, "a"), of(1, 2, 7, "b"), of(2, 3, 1, "c"), of(3, 0, 9, "d"), of(0, 3, 2, "e")}
	send(t, n, l...)
	deliver(t, n, 4, l[4])
	deliver(t, n, 0, l[0])
	tells(t, n, "b c d", 5, 2, 0, 0)
	if e := n.Drop(1); e != api.OK {
		t.Error(e)
	}
	tells(t, n, "b d", 5, 2, 1, 0)
	for _, k := range []int{0, 0, 2} {
		if e := n.Double(k); e != api.OK {
			t.Error(e)
		}
	}
	tells(t, n, "b d b b b", 5, 2, 1, 3)
	send(t, n, l[0])
	tells(t, n, "b d b b b a", 6, 2, 1, 3)
	deliver(t, n, 2, l[1])
	deliver(t, n, 0, l[1])
	if e := n.Drop(3); e != api.OK {
		t.Error(e)
	}
	tells(t, n, "d b b", 6, 4, 2, 3)
	for range 3 {
		if e := n.Drop(0); e != api.OK {
			t.Error(e)
		}
	}
	tells(t, n, "", 6, 4, 5, 3)
}

// TestNumbersOfNone has numbers below 0, that of the last one, and the one behind it.
func TestNumbersOfNone(t *testing.T) {
	for _, many := range []int{0, 1, 3} {
		n := made(t, 2)
		want := strings.TrimSpace(strings.Repeat("a ", many))
		for range many {
			send(t, n, of(0, 1, 0, "a"))
		}
		for _, k := range []int{math.MinInt, -1, many, many + 1, math.MaxInt} {
			if d, e := n.Deliver(k); e != api.ErrNone || !same(d, api.Datagram{}) {
				t.Errorf("Deliver(%d) of %d: %v, %v", k, many, d, e)
			}
			if e := n.Drop(k); e != api.ErrNone {
				t.Errorf("Drop(%d) of %d: %v", k, many, e)
			}
			if e := n.Double(k); e != api.ErrNone {
				t.Errorf("Double(%d) of %d: %v", k, many, e)
			}
			tells(t, n, want, many, 0, 0, 0)
		}
		if many == 0 {
			continue
		}
		if e := n.Double(many - 1); e != api.OK {
			t.Error(e)
		}
		if e := n.Drop(many); e != api.OK {
			t.Error(e)
		}
		deliver(t, n, many-1, of(0, 1, 0, "a"))
	}
}

func TestTo(t *testing.T) {
	n := made(t, 4)
	send(t, n, of(0, 1, 0, "a"), of(1, 2, 0, "b"), of(2, 1, 0, ""), of(1, 0, 0, "d"), of(3, 1, 0, "e"))
	for node, want := range map[int][]int{0: {3}, 1: {0, 2, 4}, 2: {1}, 3: nil, 4: nil, -1: nil, math.MinInt: nil, math.MaxInt: nil} {
		if got := n.To(node); !slices.Equal(got, want) {
			t.Errorf("To(%d): %v, want %v", node, got, want)
		}
	}
	deliver(t, n, 1, of(1, 2, 0, "b"))
	if e := n.Double(0); e != api.OK {
		t.Error(e)
	}
	for node, want := range map[int][]int{0: {2}, 1: {0, 1, 3, 4}, 2: nil} {
		if got := n.To(node); !slices.Equal(got, want) {
			t.Errorf("To(%d): %v, want %v", node, got, want)
		}
	}
}

// TestNil: a nil network answers zero values, and ErrNil ahead of all other errors.
func TestNil(t *testing.T) {
	var n *net.Net
	for _, l := range [][]api.Datagram{nil, {of(0, 1, 0, "a")}, {of(0, 0, -1, "a")}, {{To: 1, Ack: true, Bytes: []byte("a")}}} {
		if e := n.Send(l...); e != api.ErrNil {
			t.Error(e)
		}
	}
	for _, k := range []int{-1, 0, 1, math.MaxInt} {
		if d, e := n.Deliver(k); e != api.ErrNil || !same(d, api.Datagram{}) {
			t.Error(d, e)
		}
		if e := n.Drop(k); e != api.ErrNil {
			t.Error(e)
		}
		if e := n.Double(k); e != api.ErrNil {
			t.Error(e)
		}
		if l := n.To(k); len(l) > 0 {
			t.Error(l)
		}
	}
	tells(t, n, "", 0, 0, 0, 0)
	if f := n.Fork(); f != nil {
		t.Error(f)
	}
}

func TestFork(t *testing.T) {
	n := made(t, 3)
	a, b, c := of(0, 1, 0, "a"), of(0, 2, 1, "b"), of(2, 0, 2, "c")
	send(t, n, a, b)
	n.Double(0)
	n.Drop(2)
	deliver(t, n, 0, a)
	f := n.Fork()
	tells(t, f, "b", 2, 1, 1, 1)
	send(t, n, c)
	tells(t, f, "b", 2, 1, 1, 1)
	deliver(t, f, 0, b)
	tells(t, f, "", 2, 2, 1, 1)
	tells(t, n, "b c", 3, 1, 1, 1)
	// Of how many nodes it is stays, too.
	if e := f.Send(of(0, 2, 0, "d")); e != api.OK {
		t.Error(e)
	}
	if e := f.Send(of(0, 3, 0, "d")); e != api.ErrRange {
		t.Error(e)
	}
	empty := made(t, 2).Fork()
	tells(t, empty, "", 0, 0, 0, 0)
	send(t, empty, a)
	tells(t, empty, "a", 1, 0, 0, 0)
}

// TestForkHasRoomOfItsOwn: two that were forked from one send, and neither writes over the other one's.
func TestForkHasRoomOfItsOwn(t *testing.T) {
	for many := range 20 {
		n := made(t, 2)
		for k := range many {
			send(t, n, of(0, 1, k, "a"))
		}
		f, g := n.Fork(), n.Fork()
		send(t, n, of(0, 1, 0, "n"))
		send(t, f, of(0, 1, 0, "f"))
		send(t, g, of(0, 1, 0, "g"))
		front := strings.Repeat("a ", many)
		tells(t, n, front+"n", many+1, 0, 0, 0)
		tells(t, f, front+"f", many+1, 0, 0, 0)
		tells(t, g, front+"g", many+1, 0, 0, 0)
	}
}
