package link_test

import (
	"bytes"
	"fmt"
	"hash/crc32"
	"math"
	"slices"
	"testing"

	"purlin/api"
	"purlin/link"
)

// The calls have the forms that chapter 13 lists.
var (
	_ func(node, nodes int) (*link.Link, api.Errno)                                                = link.New
	_ func(l *link.Link, to int, b []byte) (api.Datagram, api.Errno)                               = (*link.Link).Send
	_ func(l *link.Link, d api.Datagram) (fresh bool, answer api.Datagram, some bool, e api.Errno) = (*link.Link).Look
	_ func(l *link.Link, from int) api.Errno                                                       = (*link.Link).Take
	_ func(l *link.Link, from, seq int) api.Errno                                                  = (*link.Link).Acked
	_ func(l *link.Link) []api.Datagram                                                            = (*link.Link).Outbox
	_ func(l *link.Link, from int) int                                                             = (*link.Link).Next
	_ func(l *link.Link, to int) int                                                               = (*link.Link).Sent
	_ func(l *link.Link) *link.Link                                                                = (*link.Link).Fork
	_ interface {
		Look(api.Datagram) (bool, api.Datagram, bool, api.Errno)
	} = (*link.Link)(nil)
	_ interface {
		Send(to int, b []byte) (api.Datagram, api.Errno)
	} = (*link.Link)(nil)
)

// noPeers are numbers that are no other node's, whichever node of at most MaxNodes asks.
var noPeers = []int{math.MinInt, -1 << 32, -2, -1, api.MaxNodes, api.MaxNodes + 1, 1 << 32, math.MaxInt}

func made(t *testing.T, node, nodes int) *link.Link {
	t.Helper()
	l, e := link.New(node, nodes)
	if e != api.OK || l == nil {
		t.Fatal(node, nodes, e)
	}
	return l
}

// show tells all of datagrams, their Bytes by a sum.
func show(l ...api.Datagram) string {
	s := ""
	for _, d := range l {
		s += fmt.Sprint(" ", d.From, ">", d.To, " ", d.Ack, " ", d.Seq, " ", len(d.Bytes), ":", crc32.ChecksumIEEE(d.Bytes), ";")
	}
	return s
}

func same(a, b api.Datagram) bool {
	return a.From == b.From && a.To == b.To && a.Ack == b.Ack && a.Seq == b.Seq && bytes.Equal(a.Bytes, b.Bytes)
}

// state is all that a link tells.
func state(l *link.Link) string {
	s := show(l.Outbox()...)
	for k := -1; k <= api.MaxNodes; k++ {
		s += fmt.Sprint(" ", l.Next(k), "/", l.Sent(k))
	}
	return s
}

func send(t *testing.T, l *link.Link, to int, text string, want api.Datagram) api.Datagram {
	t.Helper()
	want.To, want.Bytes = to, []byte(text)
	d, e := l.Send(to, []byte(text))
	if e != api.OK || !same(d, want) {
		t.Errorf("Send(%d, %s): %v, %v; want %v", to, text, d, e, want)
	}
	return d
}

// looks holds Look against what it must tell; answer is the Seq of the answer, -1 being none.
func looks(t *testing.T, l *link.Link, d api.Datagram, fresh bool, answer int) {
	t.Helper()
	before := state(l)
	want := api.Datagram{From: d.To, To: d.From, Ack: true, Seq: answer}
	if answer < 0 {
		want = api.Datagram{}
	}
	gotFresh, got, some, e := l.Look(d)
	if e != api.OK || gotFresh != fresh || some != (answer >= 0) || !same(got, want) {
		t.Errorf("Look(%v): %v, %v, %v, %v; want %v and the answer %d", d, gotFresh, got, some, e, fresh, answer)
	}
	if state(l) != before {
		t.Errorf("Look(%v) changes %s to %s", d, before, state(l))
	}
}

// refuses holds that Look has an error, and tells nothing else.
func refuses(t *testing.T, l *link.Link, d api.Datagram, want api.Errno) {
	t.Helper()
	before := state(l)
	fresh, answer, some, e := l.Look(d)
	if e != want || fresh || some || !same(answer, api.Datagram{}) || state(l) != before {
		t.Errorf("Look(%v): %v, %v, %v, %v; want %v", d, fresh, answer, some, e, want)
	}
}

func takes(t *testing.T, l *link.Link, from, next int) {
	t.Helper()
	if e := l.Take(from); e != api.OK || l.Next(from) != next {
		t.Errorf("Take(%d): %v, then %d is awaited; want %d", from, e, l.Next(from), next)
	}
}

// acked holds that, behind an acknowledgement, just these numbers to that node are in the outbox.
func acked(t *testing.T, l *link.Link, from, seq int, want ...int) {
	t.Helper()
	if e := l.Acked(from, seq); e != api.OK {
		t.Errorf("Acked(%d, %d): %v", from, seq, e)
	}
	var got []int
	for _, d := range l.Outbox() {
		if d.To == from {
			got = append(got, d.Seq)
		}
	}
	if !slices.Equal(got, want) {
		t.Errorf("behind Acked(%d, %d): %v; want %v", from, seq, got, want)
	}
}

func TestExample(t *testing.T) {
	a, b := made(t, 0, 2), made(t, 1, 2)
	first := send(t, a, 1, "one", api.Datagram{})
	second := send(t, a, 1, "two", api.Datagram{Seq: 1})
	looks(t, b, second, false, -1)
	looks(t, b, first, true, 0)
	takes(t, b, 0, 1)
	looks(t, b, first, false, 0)
	looks(t, b, second, true, 1)
	acked(t, a, 1, 0, 1)
	takes(t, b, 0, 2)
	looks(t, b, first, false, 1)
	looks(t, b, second, false, 1)
	acked(t, a, 1, 1)
}

func TestNew(t *testing.T) {
	none := func(node, nodes int) {
		t.Helper()
		if l, e := link.New(node, nodes); e != api.ErrRange || l != nil {
			t.Errorf("New(%d, %d): %v, %v", node, nodes, l, e)
		}
	}
	for _, nodes := range []int{math.MinInt, -1, 0, api.MaxNodes + 1, 100, math.MaxInt} {
		for _, node := range []int{math.MinInt, -1, 0, 1, nodes - 1, nodes, math.MaxInt} {
			none(node, nodes)
		}
	}
	for nodes := 1; nodes <= api.MaxNodes; nodes++ {
		for _, node := range []int{math.MinInt, -1, nodes, nodes + 1, math.MaxInt} {
			none(node, nodes)
		}
		for node := range nodes {
			l := made(t, node, nodes)
			if got := state(l); got != " 0/0 0/0 0/0 0/0 0/0 0/0" {
				t.Errorf("New(%d, %d): %s", node, nodes, got)
			}
			for k := range api.MaxNodes {
				_, e := l.Send(k, nil)
				if want := k < nodes && k != node; (e == api.OK) != want || !want && e != api.ErrRange {
					t.Errorf("Send(%d) of %d among %d: %v", k, node, nodes, e)
				}
			}
		}
	}
}

func TestSend(t *testing.T) {
	l := made(t, 2, 4)
	send(t, l, 3, "a", api.Datagram{From: 2})
	send(t, l, 0, "b", api.Datagram{From: 2})
	send(t, l, 3, "", api.Datagram{From: 2, Seq: 1})
	send(t, l, 3, "c", api.Datagram{From: 2, Seq: 2})
	if d, e := l.Send(1, nil); e != api.OK || !same(d, api.Datagram{From: 2, To: 1}) {
		t.Error(d, e)
	}
	long := bytes.Repeat([]byte{7}, api.MaxMessage+1)
	d, e := l.Send(0, long[:api.MaxMessage])
	want := api.Datagram{From: 2, Seq: 1, Bytes: long[:api.MaxMessage]}
	if e != api.OK || !same(d, want) {
		t.Error(e, len(d.Bytes), show(d))
	}
	before := state(l)
	for _, k := range append(slices.Clone(noPeers), 2) {
		for _, b := range [][]byte{nil, {1}, long} {
			if d, e := l.Send(k, b); e != api.ErrRange || !same(d, api.Datagram{}) {
				t.Errorf("Send(%d) of %d bytes: %s, %v", k, len(b), show(d), e)
			}
		}
	}
	for _, k := range []int{0, 1, 3} {
		if d, e := l.Send(k, long); e != api.ErrLong || !same(d, api.Datagram{}) {
			t.Errorf("Send(%d) of one byte too much: %s, %v", k, show(d), e)
		}
	}
	if state(l) != before {
		t.Errorf("%s, was %s", state(l), before)
	}
	of := func(to, seq int, text string) api.Datagram {
		return api.Datagram{From: 2, To: to, Seq: seq, Bytes: []byte(text)}
	}
	all := show(of(0, 0, "b"), want, of(1, 0, ""), of(3, 0, "a"), of(3, 1, ""), of(3, 2, "c"))
	if got := show(l.Outbox()...); got != all {
		t.Errorf("Outbox: %s; want %s", got, all)
	}
	if l.Sent(0) != 2 || l.Sent(1) != 1 || l.Sent(2) != 0 || l.Sent(3) != 3 {
		t.Error(state(l))
	}
}

func TestLook(t *testing.T) {
	l := made(t, 1, 3)
	of := func(from, seq int) api.Datagram {
		return api.Datagram{From: from, To: 1, Seq: seq, Bytes: []byte("x")}
	}
	// Nothing was taken yet: only the very first message has an answer.
	looks(t, l, of(0, 0), true, 0)
	for _, seq := range []int{1, 2, 100, math.MaxInt - 1, math.MaxInt} {
		looks(t, l, of(0, seq), false, -1)
	}
	for next := 1; next <= 5; next++ {
		takes(t, l, 0, next)
		for seq := range 9 {
			if seq == next {
				looks(t, l, of(0, seq), true, seq)
			} else {
				looks(t, l, of(0, seq), false, next-1)
			}
		}
		looks(t, l, of(0, math.MaxInt), false, next-1)
		// What is awaited of one node says nothing of another one.
		looks(t, l, of(2, 0), true, 0)
		looks(t, l, of(2, next), false, -1)
	}
	// Neither that there are no Bytes, nor how many, plays a part.
	looks(t, l, api.Datagram{From: 0, To: 1, Seq: 5}, true, 5)
	looks(t, l, api.Datagram{From: 0, To: 1, Seq: 5, Bytes: make([]byte, api.MaxMessage+1)}, true, 5)
	for _, seq := range []int{0, 4, 5, 6, math.MaxInt} {
		looks(t, l, api.Datagram{From: 0, To: 1, Ack: true, Seq: seq}, false, -1)
		looks(t, l, api.Datagram{From: 0, To: 1, Ack: true, Seq: seq, Bytes: []byte{}}, false, -1)
		refuses(t, l, api.Datagram{From: 0, To: 1, Ack: true, Seq: seq, Bytes: []byte{0}}, api.ErrForm)
	}
}

func TestLookAtWhatIsNotForIt(t *testing.T) {
	l := made(t, 1, 3)
	takes(t, l, 0, 1)
	send(t, l, 0, "x", api.Datagram{From: 1})
	for _, ack := range []bool{false, true} {
		for _, b := range [][]byte{nil, {}, {1}} { // of an Ack with Bytes both errors apply
			refuses(t, l, api.Datagram{From: 1, To: 1, Ack: ack, Bytes: b}, api.ErrRange)
			for _, k := range append(slices.Clone(noPeers), 3) {
				refuses(t, l, api.Datagram{From: k, To: 1, Ack: ack, Bytes: b}, api.ErrRange)
				refuses(t, l, api.Datagram{From: 0, To: k, Ack: ack, Bytes: b}, api.ErrRange)
			}
			for _, k := range []int{0, 2} {
				refuses(t, l, api.Datagram{From: 0, To: k, Seq: 1, Ack: ack, Bytes: b}, api.ErrRange)
			}
			for _, seq := range []int{-1, -2, math.MinInt} {
				refuses(t, l, api.Datagram{From: 0, To: 1, Seq: seq, Ack: ack, Bytes: b}, api.ErrRange)
				refuses(t, l, api.Datagram{From: 2, To: 1, Seq: seq, Ack: ack, Bytes: b}, api.ErrRange)
			}
		}
	}
}

func TestTake(t *testing.T) {
	l := made(t, 0, 3)
	takes(t, l, 1, 1)
	takes(t, l, 1, 2)
	takes(t, l, 2, 1)
	takes(t, l, 1, 3)
	for _, k := range append(slices.Clone(noPeers), 0, 3) {
		if e := l.Take(k); e != api.ErrRange {
			t.Errorf("Take(%d): %v", k, e)
		}
		if l.Next(k) != 0 || l.Sent(k) != 0 {
			t.Errorf("%d is no other node: %d, %d", k, l.Next(k), l.Sent(k))
		}
	}
	if got := state(l); got != " 0/0 0/0 3/0 1/0 0/0 0/0" {
		t.Error(got)
	}
}

func TestAcked(t *testing.T) {
	l := made(t, 0, 3)
	for seq := range 6 {
		send(t, l, 1, fmt.Sprint("m", seq), api.Datagram{Seq: seq})
	}
	send(t, l, 2, "n", api.Datagram{})
	before := state(l)
	wrong := func(from, seq int) {
		t.Helper()
		if e := l.Acked(from, seq); e != api.ErrRange {
			t.Errorf("Acked(%d, %d): %v", from, seq, e)
		}
	}
	for _, seq := range []int{math.MinInt, -1, 6, 7, math.MaxInt - 1, math.MaxInt} {
		wrong(1, seq)
	}
	wrong(2, 1)
	for _, k := range append(slices.Clone(noPeers), 0, 3) {
		for _, seq := range []int{-1, 0, 1, math.MaxInt} {
			wrong(k, seq)
		}
	}
	if state(l) != before {
		t.Errorf("%s, was %s", state(l), before)
	}
	acked(t, l, 1, 0, 1, 2, 3, 4, 5)
	acked(t, l, 1, 0, 1, 2, 3, 4, 5)
	acked(t, l, 1, 3, 4, 5)
	acked(t, l, 1, 1, 4, 5) // an older one, that comes late
	acked(t, l, 2, 0)
	acked(t, l, 2, 0)
	acked(t, l, 1, 5)
	acked(t, l, 1, 5)
	acked(t, l, 1, 0)
	wrong(1, 6)
	wrong(2, 1)
	// The numbers go on.
	send(t, l, 1, "m6", api.Datagram{Seq: 6})
	acked(t, l, 1, 5, 6)
	acked(t, l, 1, 6)
	if l.Sent(1) != 7 || l.Sent(2) != 1 || l.Next(1) != 0 || len(l.Outbox()) != 0 {
		t.Error(state(l))
	}
}

func TestOneNodeAlone(t *testing.T) {
	l := made(t, 0, 1)
	for k := -1; k <= api.MaxNodes; k++ {
		if _, e := l.Send(k, nil); e != api.ErrRange {
			t.Error(k, e)
		}
		if e := l.Take(k); e != api.ErrRange {
			t.Error(k, e)
		}
		if e := l.Acked(k, 0); e != api.ErrRange {
			t.Error(k, e)
		}
		refuses(t, l, api.Datagram{From: k}, api.ErrRange)
	}
	if got := state(l); got != " 0/0 0/0 0/0 0/0 0/0 0/0" {
		t.Error(got)
	}
}

func TestNil(t *testing.T) {
	var l *link.Link
	for _, k := range append(slices.Clone(noPeers), 0, 1, 2, 3) {
		if d, e := l.Send(k, make([]byte, api.MaxMessage+1)); e != api.ErrNil || !same(d, api.Datagram{}) {
			t.Error(k, d, e)
		}
		if e := l.Take(k); e != api.ErrNil {
			t.Error(k, e)
		}
		if e := l.Acked(k, k); e != api.ErrNil {
			t.Error(k, e)
		}
		if l.Next(k) != 0 || l.Sent(k) != 0 {
			t.Error(k, l.Next(k), l.Sent(k))
		}
		refuses(t, l, api.Datagram{From: k, To: 1, Seq: k, Ack: true, Bytes: []byte{1}}, api.ErrNil)
	}
	if len(l.Outbox()) != 0 || l.Fork() != nil {
		t.Error(l.Outbox(), l.Fork())
	}
}
