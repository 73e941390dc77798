package link_test

import (
	"fmt"
	"math/rand"
	"slices"
	"testing"

	"purlin/api"
	"purlin/link"
)

// slow is a link by the chapter's words: all that was ever sent is kept.
type slow struct {
	own, nodes int
	sent       []api.Datagram
	out        []bool // which of them were acknowledged
	taken      map[int]int
}

func (s *slow) other(k int) bool { return 0 <= k && k <= s.nodes-1 && k != s.own }

func (s *slow) sentTo(to int) int {
	n := 0
	for _, d := range s.sent {
		if d.To == to {
			n++
		}
	}
	return n
}

func (s *slow) send(to int, b []byte) (api.Datagram, api.Errno) {
	if !s.other(to) {
		return api.Datagram{}, api.ErrRange
	}
	if len(b) > api.MaxMessage {
		return api.Datagram{}, api.ErrLong
	}
	d := api.Datagram{From: s.own, To: to, Seq: s.sentTo(to), Bytes: slices.Clone(b)}
	s.sent, s.out = append(s.sent, d), append(s.out, false)
	return d, api.OK
}

func (s *slow) look(d api.Datagram) (fresh bool, answer api.Datagram, some bool, e api.Errno) {
	if d.To != s.own || !s.other(d.From) || d.Seq < 0 {
		return false, answer, false, api.ErrRange
	}
	if d.Ack && len(d.Bytes) != 0 {
		return false, answer, false, api.ErrForm
	}
	if d.Ack {
		return false, answer, false, api.OK
	}
	seq := s.taken[d.From] - 1
	if d.Seq == s.taken[d.From] {
		fresh, seq = true, d.Seq
	}
	if seq < 0 {
		return fresh, answer, false, api.OK
	}
	return fresh, api.Datagram{From: s.own, To: d.From, Ack: true, Seq: seq}, true, api.OK
}

func (s *slow) take(from int) api.Errno {
	if !s.other(from) {
		return api.ErrRange
	}
	s.taken[from]++
	return api.OK
}

func (s *slow) acked(from, seq int) api.Errno {
	if !s.other(from) || !(seq < s.sentTo(from) && seq >= 0) {
		return api.ErrRange
	}
	for i, d := range s.sent {
		s.out[i] = s.out[i] || d.To == from && d.Seq <= seq
	}
	return api.OK
}

func (s *slow) state() string {
	text := ""
	for to := range s.nodes {
		for i, d := range s.sent {
			if d.To == to && !s.out[i] {
				text += show(d)
			}
		}
	}
	for k := -1; k <= api.MaxNodes; k++ {
		text += fmt.Sprint(" ", s.taken[k], "/", s.sentTo(k))
	}
	return text
}

func (s *slow) fork() *slow {
	f := *s
	f.sent, f.out, f.taken = slices.Clone(s.sent), slices.Clone(s.out), map[int]int{}
	for k, n := range s.taken {
		f.taken[k] = n
	}
	return &f
}

func newSlow(own, nodes int) *slow { return &slow{own: own, nodes: nodes, taken: map[int]int{}} }

// someBytes are short, and now and then just as long as they may be, or longer.
func someBytes(r *rand.Rand) []byte {
	b := make([]byte, r.Intn(5))
	if r.Intn(30) == 0 {
		b = make([]byte, api.MaxMessage+r.Intn(2))
	}
	r.Read(b)
	return b
}

func someLook(r *rand.Rand, s *slow) api.Datagram {
	d := api.Datagram{From: r.Intn(s.nodes+2) - 1, To: s.own}
	d.Seq = s.taken[d.From] + r.Intn(5) - 2
	if d.Ack = r.Intn(4) == 0; !d.Ack || r.Intn(3) == 0 {
		d.Bytes = someBytes(r)
	}
	if r.Intn(10) == 0 {
		d.To = r.Intn(s.nodes+2) - 1
	}
	return d
}

// do does one call, by chance, on both; it tells which.
func do(t *testing.T, r *rand.Rand, l *link.Link, s *slow) string {
	t.Helper()
	k := r.Intn(s.nodes+2) - 1
	switch r.Intn(5) {
	case 0:
		d := someLook(r, s)
		fresh, answer, some, e := l.Look(d)
		wantFresh, want, wantSome, wantE := s.look(d)
		if fresh != wantFresh || !same(answer, want) || some != wantSome || e != wantE {
			t.Fatalf("Look(%s): %v,%s %v, %v; want %v,%s %v, %v", show(d), fresh, show(answer), some, e, wantFresh, show(want), wantSome, wantE)
		}
		return fmt.Sprint("look ", fresh, some, e)
	case 1:
		e := l.Take(k)
		if want := s.take(k); e != want {
			t.Fatalf("Take(%d): %v, want %v", k, e, want)
		}
		return fmt.Sprint("take ", e)
	case 2:
		seq := s.sentTo(k) + r.Intn(8) - 6
		e := l.Acked(k, seq)
		if want := s.acked(k, seq); e != want {
			t.Fatalf("Acked(%d, %d): %v, want %v", k, seq, e, want)
		}
		return fmt.Sprint("acked ", e)
	}
	b := someBytes(r)
	d, e := l.Send(k, b)
	if want, wantE := s.send(k, b); !same(d, want) || e != wantE {
		t.Fatalf("Send(%d) of %d bytes:%s %v, want%s %v", k, len(b), show(d), e, show(want), wantE)
	}
	clear(b)
	clear(d.Bytes)
	return fmt.Sprint("send ", e)
}

// TestRunsByTheirWords is P13.1 to P13.3, and P13.6, over runs of calls.
func TestRunsByTheirWords(t *testing.T) {
	count := map[string]int{}
	for seed := range 200 {
		r := rand.New(rand.NewSource(int64(seed)))
		nodes := 1 + seed%api.MaxNodes
		s := newSlow(r.Intn(nodes), nodes)
		l := made(t, s.own, nodes)
		for range 100 {
			before := s.state()
			what := do(t, r, l, s)
			count[what]++
			if got, want := state(l), s.state(); got != want {
				t.Fatalf("behind %s of %.300s: %.300s, want %.300s", what, before, got, want)
			}
		}
	}
	for _, what := range []string{
		fmt.Sprint("send ", api.OK), fmt.Sprint("send ", api.ErrRange), fmt.Sprint("send ", api.ErrLong),
		fmt.Sprint("take ", api.OK), fmt.Sprint("take ", api.ErrRange),
		fmt.Sprint("acked ", api.OK), fmt.Sprint("acked ", api.ErrRange),
		fmt.Sprint("look ", true, true, api.OK), fmt.Sprint("look ", false, true, api.OK), fmt.Sprint("look ", false, false, api.OK),
		fmt.Sprint("look ", false, false, api.ErrRange), fmt.Sprint("look ", false, false, api.ErrForm),
	} {
		if count[what] < 20 {
			t.Errorf("%s came up %d times alone", what, count[what])
		}
	}
}

// TestForksGoTheirOwnWay is P4: many links, each forked from another one, hold what they must.
func TestForksGoTheirOwnWay(t *testing.T) {
	for seed := range 40 {
		r := rand.New(rand.NewSource(int64(1000 + seed)))
		nodes := 2 + seed%3
		links, all := []*link.Link{made(t, 1, nodes)}, []*slow{newSlow(1, nodes)}
		for range 300 {
			i := r.Intn(len(links))
			if r.Intn(15) == 0 && len(links) < 10 {
				links, all = append(links, links[i].Fork()), append(all, all[i].fork())
			}
			do(t, r, links[i], all[i])
		}
		for i := range links {
			if got, want := state(links[i]), all[i].state(); got != want {
				t.Fatalf("%.300s, want %.300s", got, want)
			}
		}
	}
}

// world is links that send to one another; nothing that was ever sent is out of the world, so that all of it may come again.
type world struct {
	t     *testing.T
	links []*link.Link
	sent  map[[2]int][]string // from, to: the texts of all messages
	taken map[[2]int][]string
	acks  map[[2]int]int // how many messages are acknowledged, as far as the sender heard of it
	air   []api.Datagram
}

func newWorld(t *testing.T, nodes int) *world {
	w := &world{t: t, sent: map[[2]int][]string{}, taken: map[[2]int][]string{}, acks: map[[2]int]int{}}
	for k := range nodes {
		w.links = append(w.links, made(t, k, nodes))
	}
	return w
}

func (w *world) send(from, to int) {
	w.t.Helper()
	way := [2]int{from, to}
	text := fmt.Sprint(from, to, len(w.sent[way]))
	d, e := w.links[from].Send(to, []byte(text))
	if e != api.OK {
		w.t.Fatal(e)
	}
	w.sent[way] = append(w.sent[way], text)
	w.air = append(w.air, d)
}

// arrive is that a datagram comes: as the layers behind do it, its message is taken ahead of the answer.
func (w *world) arrive(d api.Datagram) {
	w.t.Helper()
	l := w.links[d.To]
	fresh, answer, some, e := l.Look(d)
	if e != api.OK {
		w.t.Fatal(d, e)
	}
	if d.Ack {
		if e := l.Acked(d.From, d.Seq); e != api.OK {
			w.t.Fatal(d, e)
		}
		way := [2]int{d.To, d.From}
		w.acks[way] = max(w.acks[way], d.Seq+1)
	}
	if fresh {
		way := [2]int{d.From, d.To}
		w.taken[way] = append(w.taken[way], string(d.Bytes))
		if e := l.Take(d.From); e != api.OK {
			w.t.Fatal(d, e)
		}
	}
	if some {
		w.air = append(w.air, answer)
	}
}

// holds is what must be true at all times.
func (w *world) holds() {
	w.t.Helper()
	for way, sent := range w.sent {
		taken := w.taken[way]
		if len(taken) > len(sent) || !slices.Equal(taken, sent[:len(taken)]) {
			w.t.Fatalf("%v: taken %v of %v", way, taken, sent)
		}
		var out, want []string
		for _, d := range w.links[way[0]].Outbox() {
			if d.To == way[1] {
				out = append(out, fmt.Sprint(d.Seq, string(d.Bytes)))
			}
		}
		for seq := w.acks[way]; seq < len(sent); seq++ {
			want = append(want, fmt.Sprint(seq, sent[seq]))
		}
		if !slices.Equal(out, want) {
			w.t.Fatalf("%v: in the outbox %v, want %v", way, out, want)
		}
		if w.acks[way] > len(taken) {
			w.t.Fatalf("%v: %d are acknowledged, %d were taken", way, w.acks[way], len(taken))
		}
	}
	for _, d := range w.air {
		fresh, _, _, e := w.links[d.To].Look(d)
		if fresh && d.Seq < len(w.taken[[2]int{d.From, d.To}]) || e != api.OK {
			w.t.Fatalf("%v is fresh again, or %v", d, e)
		}
	}
}

// TestEachMessageOnceAndInOrder is P13.4 to P13.6, whatever comes, how often, and in which order; then all come, being sent again.
func TestEachMessageOnceAndInOrder(t *testing.T) {
	count := map[string]int{}
	for seed := range 60 {
		r := rand.New(rand.NewSource(int64(seed)))
		nodes := 2 + seed%(api.MaxNodes-1)
		w := newWorld(t, nodes)
		for range 150 {
			from := r.Intn(nodes)
			switch {
			case r.Intn(3) == 0:
				w.send(from, (from+1+r.Intn(nodes-1))%nodes)
			case r.Intn(6) == 0:
				w.air = append(w.air, w.links[from].Outbox()...)
			case r.Intn(4) == 0: // a node goes on as another one that stands the same
				w.links[from] = w.links[from].Fork()
			case len(w.air) > 0:
				d := w.air[r.Intn(len(w.air))]
				if r.Intn(2) == 0 {
					d = w.air[len(w.air)-1]
				}
				count[arrival(w, d)]++
				w.arrive(d)
			}
			w.holds()
		}
		for way, sent := range w.sent {
			count["under way"] += len(sent) - w.acks[way]
		}
		w.settle()
	}
	for _, what := range []string{"ack", "awaited", "came already", "too early", "under way"} {
		if count[what] < 50 {
			t.Errorf("%s: %d times alone", what, count[what])
		}
	}
}

func arrival(w *world, d api.Datagram) string {
	next := w.links[d.To].Next(d.From)
	switch {
	case d.Ack:
		return "ack"
	case d.Seq == next:
		return "awaited"
	case d.Seq < next:
		return "came already"
	}
	return "too early"
}

// settle sends all again until nothing is left: what was under way ahead of it may be lost.
func (w *world) settle() {
	w.t.Helper()
	for range 2 {
		for _, l := range w.links {
			w.air = l.Outbox()
			for len(w.air) > 0 {
				d := w.air[0]
				w.air = w.air[1:]
				w.arrive(d)
				w.holds()
			}
		}
	}
	for way, sent := range w.sent {
		if !slices.Equal(w.taken[way], sent) || len(w.links[way[0]].Outbox()) > 0 {
			w.t.Fatalf("%v: taken %v of %v, left %v", way, w.taken[way], sent, w.links[way[0]].Outbox())
		}
	}
}

// TestAllShortRowsOfArrivals is P13.4 of three messages, with every row of six arrivals.
func TestAllShortRowsOfArrivals(t *testing.T) {
	a := made(t, 0, 2)
	var all []api.Datagram
	for k := range 3 {
		d, _ := a.Send(1, []byte{byte(k)})
		all = append(all, d)
	}
	for row := range 729 {
		b := made(t, 1, 2)
		taken, rest := "", row
		for range 6 {
			d := all[rest%3]
			rest /= 3
			next := b.Next(0)
			fresh, answer, some, e := b.Look(d)
			if e != api.OK || fresh != (d.Seq == next) || some != (fresh || next > 0) {
				t.Fatal(row, d, fresh, answer, some, e)
			}
			if fresh {
				taken += string(d.Bytes)
				b.Take(0)
			}
			if some && (answer.Seq != b.Next(0)-1 || !answer.Ack || answer.From != 1 || answer.To != 0) {
				t.Fatal(row, d, answer)
			}
		}
		if taken != "\x00\x01\x02"[:len(taken)] || b.Next(0) != len(taken) {
			t.Fatalf("%d: taken %q", row, taken)
		}
	}
}

// roomy are bytes with room behind their end that is marked.
func roomy(text string) []byte {
	return append(append(make([]byte, 0, len(text)+3), text...), 77, 78, 79)[:len(text)]
}

// wipe wipes datagrams, and what lies behind them.
func wipe(l ...api.Datagram) {
	for _, d := range l {
		for i := range d.Bytes[:cap(d.Bytes)] {
			d.Bytes[:cap(d.Bytes)][i] = 99
		}
	}
	clear(l[:cap(l)])
}

// TestNothingIsShared is P3: what is handed in stays, spare room too, and is not kept; what is answered is the caller's.
func TestNothingIsShared(t *testing.T) {
	l := made(t, 0, 3)
	texts := []string{"abc", "de", "", "fghi"}
	want := ""
	for i, text := range texts {
		b := roomy(text)
		d, e := l.Send(1+i/2, b)
		if e != api.OK || string(b[:cap(b)]) != text+"MNO" {
			t.Fatal(e, b[:cap(b)])
		}
		want += show(d)
		wipe(d)
		if string(b[:cap(b)]) != text+"MNO" {
			t.Error("an answer lies in what was handed in")
		}
		clear(b[:cap(b)])
	}
	f := l.Fork()
	for _, x := range []*link.Link{l, f, l, f} {
		out := x.Outbox()
		if show(out...) != want {
			t.Fatalf("%s, want %s", show(out...), want)
		}
		for i, d := range out {
			rest := show(slices.Concat(out[:i], out[i+1:])...)
			wipe(d)
			if show(slices.Concat(out[:i], out[i+1:])...) != rest {
				t.Error("an answer lies in another one")
			}
		}
		wipe(out...)
	}
	in := api.Datagram{From: 1, Bytes: roomy("x")}
	if fresh, _, _, _ := l.Look(in); !fresh || string(in.Bytes[:4]) != "xMNO" {
		t.Error(in.Bytes[:4])
	}
	ack := api.Datagram{From: 1, Ack: true, Bytes: roomy("")}
	if _, _, _, e := l.Look(ack); e != api.OK || string(ack.Bytes[:3]) != "MNO" {
		t.Error(e, ack.Bytes[:3])
	}
}

// TestForkedOutboxes is P4 where rows would share their room: both send behind what they had, and let go of it.
func TestForkedOutboxes(t *testing.T) {
	for n := range 20 {
		a := made(t, 0, 2)
		for k := range n {
			a.Send(1, []byte{byte(k)})
		}
		b := a.Fork()
		a.Send(1, []byte("a"))
		b.Send(1, []byte("b"))
		a.Acked(1, n/2)
		c := b.Fork()
		b.Acked(1, n)
		b.Send(1, []byte("bb"))
		c.Send(1, []byte("cc"))
		texts := func(l *link.Link) (s string) {
			for _, d := range l.Outbox() {
				s += string(d.Bytes)
			}
			return s
		}
		all := "\x00\x01\x02\x03\x04\x05\x06\x07\x08\x09\x0a\x0b\x0c\x0d\x0e\x0f\x10\x11\x12\x13"[:n]
		if got, want := texts(a), (all + "a")[n/2+1:]; got != want {
			t.Errorf("%q, want %q", got, want)
		}
		if got := texts(b); got != "bb" {
			t.Errorf("%q", got)
		}
		if got, want := texts(c), all+"bcc"; got != want {
			t.Errorf("%q, want %q", got, want)
		}
	}
}

// TestAnythingEnds is P1: no call panics, whatever it is given.
func TestAnythingEnds(t *testing.T) {
	numbers := append(slices.Clone(noPeers), 0, 1, 2, 3, 5, 1000)
	for _, l := range []*link.Link{nil, made(t, 0, 1), made(t, 1, 2), made(t, 3, 4)} {
		for _, a := range numbers {
			l.Take(a)
			l.Next(a)
			l.Sent(a)
			l.Send(a, nil)
			for _, b := range numbers {
				l.Acked(a, b)
				for _, c := range numbers {
					l.Look(api.Datagram{From: a, To: b, Seq: c})
					l.Look(api.Datagram{From: a, To: b, Seq: c, Ack: true})
				}
			}
		}
		l.Outbox()
		l.Fork()
	}
}
