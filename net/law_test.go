package net_test

import (
	"fmt"
	"hash/crc32"
	"math/rand"
	"slices"
	"testing"

	"purlin/api"
	"purlin/net"
	"purlin/wire"
)

// slow is a network by the chapter's words; all that came and went is kept.
type slow struct {
	nodes                             int
	row                               []api.Datagram
	sent, delivered, dropped, doubled []api.Datagram
}

func copyOf(d api.Datagram) api.Datagram {
	d.Bytes = slices.Clone(d.Bytes)
	return d
}

// may is when a datagram may be sent, by the chapter's words.
func (s *slow) may(d api.Datagram) api.Errno {
	between := func(k int) bool { return 0 <= k && k <= s.nodes-1 }
	if !(between(d.From) && between(d.To) && d.From != d.To && d.Seq >= 0) {
		return api.ErrRange
	}
	if len(d.Bytes) > api.MaxMessage {
		return api.ErrLong
	}
	if d.Ack && len(d.Bytes) != 0 {
		return api.ErrForm
	}
	return api.OK
}

func (s *slow) send(l []api.Datagram) api.Errno {
	i := slices.IndexFunc(l, func(d api.Datagram) bool { return s.may(d) != api.OK })
	if i >= 0 {
		return s.may(l[i])
	}
	for _, d := range l {
		s.row, s.sent = append(s.row, copyOf(d)), append(s.sent, copyOf(d))
	}
	return api.OK
}

// out takes one out of the row.
func (s *slow) out(k int) api.Datagram {
	d := s.row[k]
	s.row = slices.Concat(s.row[:k], s.row[k+1:])
	return d
}

func (s *slow) fork() *slow {
	f := *s
	for _, l := range []*[]api.Datagram{&f.row, &f.sent, &f.delivered, &f.dropped, &f.doubled} {
		*l = slices.Clone(*l)
	}
	return &f
}

// show tells all of datagrams, long ones by a sum of their Bytes.
func show(l ...api.Datagram) string {
	s := ""
	for _, d := range l {
		s += fmt.Sprintln(d.From, d.To, d.Ack, d.Seq, len(d.Bytes), crc32.ChecksumIEEE(d.Bytes))
	}
	return s
}

// text is all that it must tell.
func (s *slow) text() string {
	text := fmt.Sprint(show(s.row...), len(s.row), len(s.sent), len(s.delivered), len(s.dropped), len(s.doubled))
	for node := -1; node <= s.nodes; node++ {
		l := []int{}
		for k := range s.row {
			if s.row[k].To == node {
				l = append(l, k)
			}
		}
		text += fmt.Sprint(l)
	}
	return text
}

func text(n *net.Net, nodes int) string {
	a, b, c, d := n.Counts()
	s := fmt.Sprint(show(n.Waiting()...), n.Len(), a, b, c, d)
	for node := -1; node <= nodes; node++ {
		s += fmt.Sprint(n.To(node))
	}
	return s
}

func someDatagram(r *rand.Rand, nodes int) api.Datagram {
	d := api.Datagram{From: r.Intn(nodes), Seq: r.Intn(4)}
	d.To = (d.From + 1 + r.Intn(max(nodes-1, 1))) % nodes
	if d.Ack = r.Intn(3) == 0; !d.Ack {
		d.Bytes = make([]byte, r.Intn(5))
		r.Read(d.Bytes)
	}
	switch r.Intn(30) {
	case 0:
		d.From = r.Intn(nodes+2) - 1
	case 1:
		d.To = r.Intn(nodes+2) - 1
	case 2:
		d.Seq = -1 - r.Intn(3)
	case 3:
		d.Bytes = make([]byte, api.MaxMessage+r.Intn(2))
	case 4:
		d.Ack = true
	}
	return d
}

// do does one call, by chance, on both; it tells which.
func do(t *testing.T, r *rand.Rand, n *net.Net, s *slow) string {
	t.Helper()
	k := r.Intn(len(s.row)+2) - 1
	there := k >= 0 && k < len(s.row)
	want := api.OK
	if !there {
		want = api.ErrNone
	}
	switch r.Intn(5) {
	case 0:
		d, e := n.Deliver(k)
		if e != want || !there && !same(d, api.Datagram{}) {
			t.Fatal(k, d, e)
		}
		if there {
			s.delivered = append(s.delivered, s.out(k))
			if !same(d, s.delivered[len(s.delivered)-1]) {
				t.Fatal(k, d)
			}
		}
		return fmt.Sprint("deliver ", e)
	case 1:
		if e := n.Drop(k); e != want {
			t.Fatal(k, e)
		}
		if there {
			s.dropped = append(s.dropped, s.out(k))
		}
		return fmt.Sprint("drop ", want)
	case 2:
		if e := n.Double(k); e != want {
			t.Fatal(k, e)
		}
		if there {
			s.row, s.doubled = append(s.row, s.row[k]), append(s.doubled, s.row[k])
		}
		return fmt.Sprint("double ", want)
	}
	var l []api.Datagram
	for range r.Intn(4) {
		l = append(l, someDatagram(r, s.nodes))
	}
	e := n.Send(l...)
	if want := s.send(l); e != want {
		t.Fatal(l, e, want)
	}
	for _, d := range l {
		clear(d.Bytes)
	}
	return fmt.Sprint("send ", e)
}

// TestRunsByTheirWords is P12.1 to P12.3, and P12.6, over runs of calls.
func TestRunsByTheirWords(t *testing.T) {
	count := map[string]int{}
	for seed := range 200 {
		r := rand.New(rand.NewSource(int64(seed)))
		s := &slow{nodes: 1 + seed%api.MaxNodes}
		n := made(t, s.nodes)
		for range 100 {
			before := s.text()
			what := do(t, r, n, s)
			count[what]++
			if got, want := text(n, s.nodes), s.text(); got != want {
				t.Fatalf("behind %s of %.300s: %.300s, want %.300s", what, before, got, want)
			}
		}
		holdsTogether(t, n, s)
	}
	for _, what := range []string{"send 0", "send 2", "send 5", "send 6", "deliver 0", "deliver 4", "drop 0", "drop 4", "double 0", "double 4"} {
		if count[what] < 20 {
			t.Errorf("%s came up %d times alone", what, count[what])
		}
	}
}

// tally counts datagrams that are alike.
func tally(lists ...[]api.Datagram) map[string]int {
	m := map[string]int{}
	for _, l := range lists {
		for _, d := range l {
			m[show(d)]++
		}
	}
	return m
}

// holdsTogether is P12.4 and P12.5: what waits, was delivered and was dropped is what was sent and doubled, as often.
func holdsTogether(t *testing.T, n *net.Net, s *slow) {
	t.Helper()
	came, went := tally(s.sent, s.doubled), tally(n.Waiting(), s.delivered, s.dropped)
	if fmt.Sprint(came) != fmt.Sprint(went) {
		t.Errorf("%v, want %v", went, came)
	}
	sent := tally(s.sent)
	for _, d := range slices.Concat(s.delivered, s.doubled, n.Waiting()) {
		if sent[show(d)] == 0 {
			t.Errorf("%s was never sent", show(d))
		}
	}
}

// TestForksGoTheirOwnWay is P4: many networks, each forked from another one, hold what they must.
func TestForksGoTheirOwnWay(t *testing.T) {
	for seed := range 40 {
		r := rand.New(rand.NewSource(int64(1000 + seed)))
		nodes := 2 + seed%3
		nets, all := []*net.Net{made(t, nodes)}, []*slow{{nodes: nodes}}
		for range 300 {
			i := r.Intn(len(nets))
			if r.Intn(15) == 0 && len(nets) < 10 {
				nets, all = append(nets, nets[i].Fork()), append(all, all[i].fork())
			}
			do(t, r, nets[i], all[i])
		}
		for i := range nets {
			if got, want := text(nets[i], nodes), all[i].text(); got != want {
				t.Fatalf("%.300s, want %.300s", got, want)
			}
			holdsTogether(t, nets[i], all[i])
		}
	}
}

// roomy are datagrams with room behind the ends of their lists that is marked.
func roomy(l ...api.Datagram) []api.Datagram {
	r := make([]api.Datagram, 0, len(l)+2)
	for _, d := range l {
		d.Bytes = append(append(make([]byte, 0, len(d.Bytes)+3), d.Bytes...), 77, 78, 79)[:len(d.Bytes)]
		r = append(r, d)
	}
	return append(r, api.Datagram{Seq: 77}, api.Datagram{Seq: 78})[:len(l)]
}

func whole(l []api.Datagram) string {
	s := ""
	for _, d := range l[:cap(l)] {
		s += fmt.Sprintln(d, d.Bytes[:cap(d.Bytes)])
	}
	return s
}

// wipe wipes datagrams, and what lies behind them.
func wipe(l ...api.Datagram) {
	for _, d := range l {
		for i := range d.Bytes[:cap(d.Bytes)] {
			d.Bytes[:cap(d.Bytes)][i] = 99
		}
	}
	clear(l[:cap(l)])
}

// TestNothingIsShared is P3: what is handed in stays, spare room too, and is not kept; what is answered is the caller's.
func TestNothingIsShared(t *testing.T) {
	n := made(t, 3)
	in := roomy(of(0, 1, 0, "abc"), of(1, 2, 1, "de"), of(2, 0, 2, ""), of(0, 2, 3, "fghi"))
	before := whole(in)
	send(t, n, in...)
	n.Double(0)
	n.Double(3)
	f := n.Fork()
	if e := n.Send(roomy(of(0, 0, 0, "a"))...); e != api.ErrRange {
		t.Error(e)
	}
	if whole(in) != before {
		t.Errorf("%s, was %s", whole(in), before)
	}
	wipe(in...)
	const want = "abc de  fghi abc fghi"
	for _, x := range []*net.Net{n, f, n, f} {
		l := x.Waiting()
		if texts(l) != want {
			t.Fatal(texts(l))
		}
		for i, d := range l {
			rest := fmt.Sprint(l[:i], l[i+1:])
			for j := range d.Bytes[:cap(d.Bytes)] {
				d.Bytes[:cap(d.Bytes)][j] = 99
			}
			if fmt.Sprint(l[:i], l[i+1:]) != rest {
				t.Error("an answer lies in another one")
			}
		}
		wipe(l...)
		numbers := x.To(1)
		clear(numbers[:cap(numbers)])
		if got := x.To(1); !slices.Equal(got, []int{0, 4}) {
			t.Error(got)
		}
	}
	// What is delivered is wiped: its double still waits, here and in the other one.
	for _, k := range []int{0, 2} {
		d, _ := n.Deliver(k)
		wipe(d)
	}
	if got := texts(n.Waiting()); got != "de  abc fghi" {
		t.Error(got)
	}
	if got := texts(f.Waiting()); got != want {
		t.Error(got)
	}
}

// TestMessagesComeAsTheyWereSent is E9: a message that goes over the network as bytes comes as it was.
func TestMessagesComeAsTheyWereSent(t *testing.T) {
	n := made(t, 2)
	var l []api.Message
	for k := range 50 {
		l = append(l, api.Message{Tag: api.Ship, Goal: api.Name{Node: 1, Number: k}, Term: api.Term{{Kind: api.Int, N: -k}}, Credit: api.Amount{Bits: []int{k + 1}}})
		b, e := wire.Encode(l[k])
		if e != api.OK {
			t.Fatal(e)
		}
		send(t, n, api.Datagram{To: 1, Seq: k, Bytes: b})
		clear(b)
	}
	for n.Len() > 0 {
		d, e := n.Deliver(n.Len() / 2)
		m, wrong, at := wire.Decode(d.Bytes)
		if e != api.OK || wrong != api.OK || at != 0 || fmt.Sprint(m) != fmt.Sprint(l[d.Seq]) {
			t.Fatal(e, wrong, at, m)
		}
	}
}
