package durable_test

import (
	"bytes"
	"fmt"
	"maps"
	"math"
	"math/rand"
	"slices"
	"testing"

	"purlin/api"
	"purlin/durable"
	"purlin/journal"
	"purlin/node"
	"purlin/syntax"
	"purlin/wire"
)

const lawProgram = example + " t(X) :- X = f(Y), q(1) @ 2, w(Y) @ 1. z(X, Y) :- X = Y @ 1."

// slow is a durable by the chapter's words: the events that happened, and the disk's bytes; what the node is, and what the link has, is made of these each time.
type slow struct {
	p                api.Program
	i, nodes, budget int
	up               bool
	events           []api.Event
	disk             []byte
	acked            map[int]int // how many to each node, since it came up
}

func (s *slow) copied() *slow {
	c := *s
	c.events, c.disk, c.acked = slices.Clone(s.events), slices.Clone(s.disk), maps.Clone(s.acked)
	return &c
}

// replay is the node behind events, all datagrams that were ever sent, and how many messages were taken of each node.
func (s *slow) replay(more ...api.Event) (n *node.Node, sent []api.Datagram, taken map[int]int, last node.Done) {
	n, _ = node.New(s.p, s.i, s.nodes, s.budget)
	next := map[int]int{}
	taken = map[int]int{}
	for _, e := range append(slices.Clone(s.events), more...) {
		last = n.Do(e)
		if last.Errno != api.OK {
			continue
		}
		if e.Kind == api.Receive {
			taken[e.From]++
		}
		for _, o := range last.Sent {
			if b, errno := wire.Encode(o.Message); errno == api.OK {
				sent = append(sent, api.Datagram{From: s.i, To: o.To, Seq: next[o.To], Bytes: b})
				next[o.To]++
			}
		}
	}
	return n, sent, taken, last
}

func (s *slow) outbox() []api.Datagram {
	_, sent, _, _ := s.replay()
	sent = slices.DeleteFunc(sent, func(d api.Datagram) bool { return d.Seq < s.acked[d.To] })
	slices.SortStableFunc(sent, func(a, b api.Datagram) int { return a.To - b.To })
	return sent
}

// may tells whether an event may be recorded, and its bytes.
func may(e api.Event) ([]byte, bool) {
	switch {
	case (e.Kind == api.Step || e.Kind == api.Collect) && e.From == 0 && len(e.Bytes) == 0 && len(e.Term) == 0:
		return []byte{byte(e.Kind)}, true
	case e.Kind == api.Receive && e.From >= 0 && e.From <= 3 && len(e.Bytes) <= 65536 && len(e.Term) == 0:
		return append([]byte{2, byte(e.From)}, e.Bytes...), true
	case e.Kind == api.Submit && e.From == 0 && len(e.Bytes) == 0:
		s, _ := syntax.Print(e.Term)
		x, _, errno, _ := syntax.Term(s)
		return append([]byte{3}, s...), errno == api.OK && slices.Equal(x, e.Term)
	}
	return nil, false
}

func (s *slow) do(e api.Event, cut int, answers ...api.Datagram) string {
	payload, ok := may(e)
	if !ok {
		return failing(api.ErrForm)
	}
	_, before, _, _ := s.replay()
	_, sent, _, done := s.replay(e)
	if done.Errno != api.OK {
		return failing(done.Errno)
	}
	record, _ := journal.Record(payload)
	if cut == 0 {
		s.disk = append(s.disk, record...)
		s.events = append(s.events, e)
		return told(done, append(slices.Clone(answers), sent[len(before):]...), api.OK)
	}
	s.up = false
	n := min(cut-1, len(record))
	s.disk = append(s.disk, record[:n]...)
	if n < len(record) {
		return told(node.Done{}, nil, api.OK)
	}
	s.events = append(s.events, e)
	return told(done, nil, api.OK)
}

func told(done node.Done, sent []api.Datagram, e api.Errno) string {
	return fmt.Sprint(done.Errno, done.Commit, done.Sent, sent, e)
}

func failing(e api.Errno) string { return told(node.Done{}, nil, e) }

func (s *slow) take(g api.Datagram, cut int) string {
	other := g.From >= 0 && g.From < s.nodes && g.From != s.i
	if !other || g.To != s.i || g.Seq < 0 {
		return failing(api.ErrRange)
	}
	if g.Ack && len(g.Bytes) > 0 {
		return failing(api.ErrForm)
	}
	_, sent, taken, _ := s.replay()
	answer := []api.Datagram{{From: s.i, To: g.From, Ack: true, Seq: taken[g.From] - 1}}
	switch {
	case g.Ack:
		n := 0
		for _, d := range sent {
			if d.To == g.From {
				n++
			}
		}
		if g.Seq >= n {
			return failing(api.ErrRange)
		}
		s.acked[g.From] = max(s.acked[g.From], g.Seq+1)
		answer = nil
	case g.Seq == taken[g.From]:
		answer[0].Seq = g.Seq
		return s.do(api.Event{Kind: api.Receive, From: g.From, Bytes: g.Bytes}, cut, answer...)
	case taken[g.From] == 0:
		answer = nil
	}
	if cut > 0 {
		s.up, answer = false, nil
	}
	return told(node.Done{}, answer, api.OK)
}

// crash and restart: what was acknowledged is forgotten.
func (s *slow) restart() string {
	if s.up {
		return fmt.Sprint(0, api.ErrUp)
	}
	whole := 0
	for _, e := range s.events {
		payload, _ := may(e)
		whole += 8 + len(payload)
	}
	tail := len(s.disk) - whole
	s.disk, s.up, s.acked = s.disk[:whole:whole], true, map[int]int{}
	return fmt.Sprint(tail, api.OK)
}

func (s *slow) text(t testing.TB) string {
	c := s.copied()
	if !s.up {
		c.acked = map[int]int{}
	}
	n, sent, taken, _ := s.replay()
	text := fmt.Sprint(s.up, s.events, s.disk, c.outbox())
	for k := range api.MaxNodes {
		out := 0
		for _, d := range sent {
			if d.To == k {
				out++
			}
		}
		text += fmt.Sprint(" ", taken[k], out)
	}
	return text + nodeText(t, n)
}

// text is what a durable tells; all of that is overwritten then.
func text(t testing.TB, d *durable.Durable) string {
	events, l, j, n := d.Events(), d.Link(), d.Journal(), d.Node()
	disk, outbox := j.Bytes(), l.Outbox()
	s := fmt.Sprint(d.Up(), events, disk, outbox)
	for k := range api.MaxNodes {
		s += fmt.Sprint(" ", l.Next(k), l.Sent(k))
	}
	s += nodeText(t, n)
	for _, e := range events {
		clear(e.Bytes)
		clear(e.Term)
	}
	for _, g := range outbox {
		clear(g.Bytes)
	}
	clear(disk)
	j.Append([]byte{1})
	l.Take(1)
	l.Send(1, []byte{9})
	n.Do(step())
	n.Do(collect())
	again, _ := d.Resend()
	for _, g := range again {
		clear(g.Bytes)
	}
	return s
}

// someGoal is the term of a goal that a message brings.
func someGoal(r *rand.Rand) string {
	v := fmt.Sprintf("?%d_%d", r.Intn(3), r.Intn(3))
	return []string{"q(2)", "w(" + v + ")", v + " = a", "true", "w(b)", v + " := 1 + 1", "r(3) @ 2", v, "t(" + v + ")"}[r.Intn(9)]
}

func someBytes(t testing.TB, r *rand.Rand) []byte {
	unit := api.Amount{Whole: r.Intn(2), Bits: []int{1 + r.Intn(3)}}
	v := name(r.Intn(3), r.Intn(3))
	var m api.Message
	switch r.Intn(9) {
	case 0:
		m = api.Message{Tag: api.Read, Var: v, Credit: unit}
	case 1, 2:
		m = api.Message{Tag: api.Value, Var: v, Term: termOf(t, []string{"a", "7", "f(?0_0)"}[r.Intn(3)]), Credit: unit}
	case 3:
		m = api.Message{Tag: api.Add, Var: v, Count: r.Intn(3)}
	case 4:
		m = api.Message{Tag: api.Release, Var: v, Count: 1}
	case 5:
		m = api.Message{Tag: api.Return, Count: r.Intn(3), Flags: r.Intn(4), Credit: unit}
	case 6:
		return []byte{byte(r.Intn(8)), 1, 0}
	default:
		m = api.Message{Tag: api.Ship, Goal: name(r.Intn(3), r.Intn(50)), Term: termOf(t, someGoal(r)), Credit: unit}
	}
	return bytesOf(t, m)
}

func someEvent(t testing.TB, r *rand.Rand) api.Event {
	switch r.Intn(12) {
	case 0:
		return collect()
	case 1, 2, 3:
		return submit(t, []string{"p(2)", "t(X)", "z(X, Y)", "w(X)", "p(X) @ 2", "q(1) @ 1"}[r.Intn(6)])
	case 4:
		return []api.Event{{}, {Kind: api.Receive, From: 1}, {Kind: api.Step, From: 2}, {Kind: api.Submit, Term: variable(-1, 0)}, {Kind: api.Submit, Term: variable(-1, 1)}, {Kind: 77}}[r.Intn(6)]
	}
	return step()
}

// someDatagram is one whose number is awaited, most times.
func someDatagram(t testing.TB, r *rand.Rand, s *slow) api.Datagram {
	from := r.Intn(3)
	for from == s.i && r.Intn(20) > 0 {
		from = r.Intn(3)
	}
	_, _, taken, _ := s.replay()
	g := api.Datagram{From: from, To: s.i, Seq: taken[from], Bytes: someBytes(t, r)}
	switch r.Intn(9) {
	case 0:
		g.Seq += r.Intn(5) - 2
	case 1:
		g.To = r.Intn(4)
	case 2, 3:
		g.Ack, g.Seq, g.Bytes = true, r.Intn(4), nil
	case 4:
		g.Ack = r.Intn(6) == 0
	}
	return g
}

type pair struct {
	d *durable.Durable
	s *slow
}

// act does something by chance with both: what each told.
func act(t testing.TB, r *rand.Rand, x pair, count map[string]int) (got, want string) {
	cut := []int{0, 0, 0, 0, 0, 0, 1 + r.Intn(14), 1 + r.Intn(60), math.MaxInt, -1}[r.Intn(10)]
	asked := func(call func() string) string {
		switch {
		case !x.s.up:
			return failing(api.ErrDown)
		case cut < 0:
			return failing(api.ErrRange)
		}
		return call()
	}
	switch n := r.Intn(20); {
	case n < 8:
		e := someEvent(t, r)
		done, sent, errno := x.d.Do(handed(e), cut)
		got, want = told(done, sent, errno), asked(func() string {
			if e.Kind == api.Receive {
				return failing(api.ErrForm)
			}
			return x.s.do(e, cut)
		})
		count[fmt.Sprint("do ", errno)]++
		scramble(done, sent)
	case n < 15:
		g := someDatagram(t, r, x.s)
		own := g
		own.Bytes = append(slices.Clone(g.Bytes), 0xaa)[:len(g.Bytes)]
		done, sent, errno := x.d.Take(own, cut)
		if !bytes.Equal(own.Bytes[:cap(own.Bytes)][:len(g.Bytes)+1], append(slices.Clone(g.Bytes), 0xaa)) {
			t.Fatal("what was handed in has changed")
		}
		clear(own.Bytes)
		got, want = told(done, sent, errno), asked(func() string { return x.s.take(g, cut) })
		count[fmt.Sprint("take ", errno)]++
		scramble(done, sent)
	case n < 16:
		l, errno := x.d.Resend()
		got = fmt.Sprint(l, errno)
		if want = fmt.Sprint(x.s.outbox(), api.OK); !x.s.up {
			want = fmt.Sprint([]api.Datagram{}, api.ErrDown)
		}
	case n < 17:
		got, want = fmt.Sprint(x.d.Crash()), fmt.Sprint(api.OK)
		if !x.s.up {
			want = fmt.Sprint(api.ErrDown)
		}
		x.s.up = false
	default:
		n, errno := x.d.Restart()
		got, want = fmt.Sprint(n, errno), x.s.restart()
		count[fmt.Sprint("restart ", min(n, 1), errno)]++
	}
	return got, want
}

// handed is an event with lists of its own.
func handed(e api.Event) api.Event {
	e.Bytes, e.Term = slices.Clone(e.Bytes), slices.Clone(e.Term)
	return e
}

// scramble overwrites what was answered.
func scramble(done node.Done, sent []api.Datagram) {
	for _, c := range done.Commit {
		clear(c.Goal.Term)
		for _, g := range c.Goals {
			clear(g.Term)
		}
		for _, b := range c.Bound {
			clear(b.Term)
		}
	}
	for _, o := range done.Sent {
		clear(o.Message.Term)
		clear(o.Message.Credit.Bits)
	}
	for _, g := range sent {
		clear(g.Bytes)
	}
}

// TestLaws: a durable does what one by the chapter's words does, in calls by chance: P20.1 to P20.8, E8, P2 to P4.
func TestLaws(t *testing.T) {
	count := map[string]int{}
	p := programOf(t, lawProgram)
	for seed := range 120 {
		r := rand.New(rand.NewSource(int64(seed)))
		i, budget := seed%3, []int{2, 30, 1000}[r.Intn(3)]
		d, e := durable.New(p, i, 3, budget)
		if e != api.OK {
			t.Fatal(e)
		}
		l := []pair{{d, &slow{p: p, i: i, nodes: 3, budget: budget, up: true, acked: map[int]int{}}}}
		for range 60 {
			x := l[r.Intn(len(l))]
			if r.Intn(20) == 0 && len(l) < 3 {
				l = append(l, pair{x.d.Fork(), x.s.copied()})
			}
			if got, want := act(t, r, x, count); got != want {
				t.Fatalf("seed %d: %s\nwant %s", seed, got, want)
			}
			if got, want := text(t, x.d), x.s.text(t); got != want {
				t.Fatalf("seed %d:\n%s\nwant\n%s", seed, got, want)
			}
		}
		for _, x := range l {
			if got, want := text(t, x.d), x.s.text(t); got != want {
				t.Fatalf("seed %d:\n%s\nwant\n%s", seed, got, want)
			}
			if got, want := nodeText(t, x.d.Node()), behind(t, p, i, budget, x.d.Events()); got != want {
				t.Fatalf("P20.6, seed %d:\n%s\nwant\n%s", seed, got, want)
			}
		}
	}
	for _, what := range []string{
		"do 0", fmt.Sprint("do ", api.ErrDown), fmt.Sprint("do ", api.ErrRange), fmt.Sprint("do ", api.ErrForm), fmt.Sprint("do ", api.ErrIdle),
		"take 0", fmt.Sprint("take ", api.ErrDown), fmt.Sprint("take ", api.ErrRange), fmt.Sprint("take ", api.ErrForm), fmt.Sprint("take ", api.ErrOwner), fmt.Sprint("take ", api.ErrBytes),
		fmt.Sprint("restart 0 ", api.ErrUp), "restart 0 0", "restart 1 0",
	} {
		if count[what] < 10 {
			t.Errorf("%s: %d times alone", what, count[what])
		}
	}
}

func behind(t testing.TB, p api.Program, i, budget int, events []api.Event) string {
	n, _ := node.New(p, i, 3, budget)
	for _, e := range events {
		if d := n.Do(e); d.Errno != api.OK {
			t.Fatal("an event that happened has an error:", e, d.Errno)
		}
	}
	return nodeText(t, n)
}
