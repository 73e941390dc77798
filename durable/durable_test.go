package durable_test

import (
	"fmt"
	"math"
	"testing"

	"purlin/api"
	"purlin/durable"
	"purlin/journal"
	"purlin/link"
	"purlin/node"
)

// The calls have the forms that chapter 20 lists.
var (
	_ func(api.Event) ([]byte, api.Errno)                                              = durable.Encode
	_ func([]byte) (api.Event, api.Errno)                                              = durable.Decode
	_ func(api.Program, int, int, int) (*durable.Durable, api.Errno)                   = durable.New
	_ func(*durable.Durable, api.Event, int) (node.Done, []api.Datagram, api.Errno)    = (*durable.Durable).Do
	_ func(*durable.Durable, api.Datagram, int) (node.Done, []api.Datagram, api.Errno) = (*durable.Durable).Take
	_ func(*durable.Durable) ([]api.Datagram, api.Errno)                               = (*durable.Durable).Resend
	_ func(*durable.Durable) api.Errno                                                 = (*durable.Durable).Crash
	_ func(*durable.Durable) (int, api.Errno)                                          = (*durable.Durable).Restart
	_ func(*durable.Durable) bool                                                      = (*durable.Durable).Up
	_ func(*durable.Durable) *node.Node                                                = (*durable.Durable).Node
	_ func(*durable.Durable) *link.Link                                                = (*durable.Durable).Link
	_ func(*durable.Durable) *journal.Log                                              = (*durable.Durable).Journal
	_ func(*durable.Durable, ...*durable.Durable) []api.Event                          = (*durable.Durable).Events
	_ func(*durable.Durable) *durable.Durable                                          = (*durable.Durable).Fork
)

func isZero(done node.Done, sent []api.Datagram) bool {
	return done.Errno == api.OK && len(done.Commit) == 0 && len(done.Sent) == 0 && len(sent) == 0
}

func TestExample(t *testing.T) {
	d := durableOf(t, example, 0, 2, 9)
	did(t, d, submit(t, "p(2)"), step())
	f := d.Fork()
	if done, sent, e := d.Do(step(), 4); e != api.OK || !isZero(done, sent) || d.Up() || len(d.Events()) != 2 {
		t.Error(done, sent, e)
	}
	restarts(t, d, 3)
	if len(d.Node().Queue()) != 1 || len(d.Link().Outbox()) != 0 {
		t.Error(d.Node().Queue(), d.Link().Outbox())
	}
	if done, sent, e := f.Do(step(), 100); e != api.OK || len(done.Commit) != 1 || len(done.Sent) != 1 || len(sent) > 0 || f.Up() || len(f.Events()) != 3 {
		t.Error(done, sent, e)
	}
	restarts(t, f, 0)
	if l, e := f.Resend(); e != api.OK || len(l) != 1 || l[0].To != 1 || l[0].Seq != 0 || l[0].Ack {
		t.Error(l, e)
	}
}

func TestNew(t *testing.T) {
	right, wrong := programOf(t, example), append(programOf(t, example), api.Clause{Head: number(1)})
	numbers := []int{math.MinInt, -1, 0, 1, 2, 3, 4, 5, api.MaxBudget, api.MaxBudget + 1, math.MaxInt}
	for _, i := range numbers {
		for _, nodes := range numbers {
			for _, budget := range numbers {
				for _, p := range []api.Program{right, wrong, nil} {
					n, want := node.New(p, i, nodes, budget)
					d, e := durable.New(p, i, nodes, budget)
					if e != want || (d != nil) != (n != nil) || d.Up() != (n != nil) {
						t.Fatalf("New(%d, %d, %d): %v, want %v", i, nodes, budget, e, want)
					}
				}
			}
		}
	}
	d := durableOf(t, example, 2, 3, 9)
	n, _ := node.New(right, 2, 3, 9)
	l, _ := link.New(2, 3)
	if !d.Up() || nodeText(t, d.Node()) != nodeText(t, n) || linkText(d.Link()) != linkText(l) || len(d.Journal().Bytes()) > 0 || len(d.Events()) > 0 {
		t.Error(whole(t, d))
	}
}

// TestProgramIsNotKept: what is handed to New may change behind it; a restart makes of it what it was.
func TestProgramIsNotKept(t *testing.T) {
	p := programOf(t, example)
	d, _ := durable.New(p, 0, 2, 9)
	for _, c := range p {
		clear(c.Head)
		clear(c.Body)
		clear(c.Guards)
	}
	clear(p)
	did(t, d, submit(t, "p(2)"), step())
	before := nodeText(t, d.Node())
	d.Crash()
	restarts(t, d, 0)
	if after := nodeText(t, d.Node()); after != before || len(d.Node().Queue()) != 1 {
		t.Error(after)
	}
}

func TestNil(t *testing.T) {
	var d *durable.Durable
	for _, cut := range []int{-1, 0, 1, math.MaxInt} {
		for _, e := range []api.Event{{}, step(), submit(t, "p"), {Kind: api.Receive}} {
			if done, sent, errno := d.Do(e, cut); errno != api.ErrNil || !isZero(done, sent) {
				t.Error(done, sent, errno)
			}
		}
		for _, g := range []api.Datagram{{}, {From: 1, Bytes: shipped(t, "p")}, {Ack: true, Bytes: []byte{1}}} {
			if done, sent, errno := d.Take(g, cut); errno != api.ErrNil || !isZero(done, sent) {
				t.Error(done, sent, errno)
			}
		}
	}
	if l, e := d.Resend(); e != api.ErrNil || len(l) > 0 {
		t.Error(l, e)
	}
	if n, e := d.Restart(); e != api.ErrNil || n != 0 {
		t.Error(n, e)
	}
	if d.Crash() != api.ErrNil || d.Up() || d.Node() != nil || d.Link() != nil || d.Journal() != nil || len(d.Events()) > 0 || len(d.Events(nil, nil)) > 0 || d.Fork() != nil {
		t.Error("a nil durable tells something")
	}
}

// refuses: an error, nothing beside it, and nothing changed, whatever the cut is.
func refuses(t testing.TB, d *durable.Durable, want api.Errno, call func(cut int) (node.Done, []api.Datagram, api.Errno), cuts ...int) {
	t.Helper()
	before := whole(t, d)
	for _, cut := range cuts {
		if done, sent, e := call(cut); e != want || !isZero(done, sent) {
			t.Errorf("cut %d: %v, %v, %v; want %v", cut, done, sent, e, want)
		}
	}
	if after := whole(t, d); after != before {
		t.Errorf("%s\nbehind it\n%s", before, after)
	}
}

func doing(d *durable.Durable, e api.Event) func(int) (node.Done, []api.Datagram, api.Errno) {
	return func(cut int) (node.Done, []api.Datagram, api.Errno) { return d.Do(e, cut) }
}

func taking(d *durable.Durable, g api.Datagram) func(int) (node.Done, []api.Datagram, api.Errno) {
	return func(cut int) (node.Done, []api.Datagram, api.Errno) { return d.Take(g, cut) }
}

// TestDoErrors: each of them, in their order.
func TestDoErrors(t *testing.T) {
	d := durableOf(t, example, 0, 2, 9)
	wrong := []api.Event{{}, {Kind: 9}, {Kind: api.Receive, From: 1, Bytes: shipped(t, "true")}, {Kind: api.Receive, From: 9}, {Kind: api.Step, From: 1}, {Kind: api.Submit}, {Kind: api.Submit, Term: variable(-1, 3)}}
	down := d.Fork()
	down.Crash()
	for _, e := range append(wrong, step(), collect(), submit(t, "p(2)")) {
		refuses(t, d, api.ErrRange, doing(d, e), -1, -2, math.MinInt)
		refuses(t, down, api.ErrDown, doing(down, e), -1, 0, 1, 7, math.MaxInt)
	}
	for _, e := range wrong {
		refuses(t, d, api.ErrForm, doing(d, e), 0, 1, 5, 100, math.MaxInt)
	}
	// The node's errors: a cut does not take it down then.
	refuses(t, d, api.ErrIdle, doing(d, step()), 0, 1, 5, 100, math.MaxInt)
	for _, s := range []string{"7", "X", "p(?0_0)", "?1_1"} {
		refuses(t, d, api.ErrForm, doing(d, submit(t, s)), 0, 1, 100)
	}
	other := durableOf(t, example, 1, 2, 9)
	refuses(t, other, api.ErrRange, doing(other, submit(t, "p(2)")), 0, 3, 100)
	spent := durableOf(t, example, 0, 2, 0)
	did(t, spent, submit(t, "p(2)"))
	refuses(t, spent, api.ErrFuel, doing(spent, step()), 0, 3, 100)
}

// TestCuts is P20.5 of a cut at each byte of a record, and beyond it: it is as it was ahead of the event, or behind it.
func TestCuts(t *testing.T) {
	for _, e := range []api.Event{step(), collect(), submit(t, "f(X, Y, X)")} {
		d := durableOf(t, example, 0, 2, 9)
		did(t, d, submit(t, "p(2)"), step())
		payload, _ := durable.Encode(e)
		record, _ := journal.Record(payload)
		behind := d.Fork()
		done, _ := did(t, behind, e)
		for _, cut := range append(upTo(len(record)+4), 1000, math.MaxInt) {
			f := d.Fork()
			got, sent, errno := f.Do(e, cut)
			if errno != api.OK || len(sent) > 0 || f.Up() {
				t.Fatal(cut, got, sent, errno)
			}
			written := min(cut-1, len(record))
			if n := len(f.Journal().Bytes()); n != len(d.Journal().Bytes())+written {
				t.Errorf("cut %d: %d bytes", cut, n)
			}
			want, tail, told := d, written, node.Done{}
			if written == len(record) {
				want, tail, told = behind, 0, done
			}
			if fmt.Sprint(got) != fmt.Sprint(told) {
				t.Errorf("cut %d: %v, want %v", cut, got, told)
			}
			if nodeText(t, f.Node()) != nodeText(t, want.Node()) || linkText(f.Link()) != linkText(want.Link()) || fmt.Sprint(f.Events()) != fmt.Sprint(want.Events()) {
				t.Errorf("cut %d: %s", cut, whole(t, f))
			}
			restarts(t, f, tail)
			if whole(t, f) != whole(t, want) {
				t.Errorf("cut %d: %s\n, want\n%s", cut, whole(t, f), whole(t, want))
			}
		}
	}
}

// upTo are the cuts from 1 on.
func upTo(n int) (l []int) {
	for i := 1; i <= n; i++ {
		l = append(l, i)
	}
	return l
}

// pairOf is node 0 that has sent three goals, and node 1 that has taken nothing.
func pairOf(t testing.TB) (d, other *durable.Durable, sent []api.Datagram) {
	t.Helper()
	d, other = durableOf(t, example, 0, 2, 9), durableOf(t, example, 1, 2, 9)
	for range 3 {
		did(t, d, submit(t, "q(2) @ 1"))
		_, l := did(t, d, step())
		sent = append(sent, l...)
	}
	return d, other, sent
}

// TestTakeErrors: each of them, in their order; a message whose event has an error is not taken, and not answered.
func TestTakeErrors(t *testing.T) {
	d, other, sent := pairOf(t)
	down := other.Fork()
	down.Crash()
	good := sent[0]
	wrong := []api.Datagram{{}, {From: 0, To: 0}, {From: 1, To: 1}, {From: 2, To: 1}, {From: -1, To: 1}, {From: 0, To: 2}, {From: 0, To: 1, Seq: -1}, {From: math.MinInt, To: 1}, {From: 0, To: 1, Seq: math.MinInt, Ack: true, Bytes: []byte{1}}}
	for _, g := range append(wrong, good, api.Datagram{From: 0, To: 1, Ack: true}) {
		refuses(t, down, api.ErrDown, taking(down, g), -1, 0, 1, 100)
		refuses(t, other, api.ErrRange, taking(other, g), -1, math.MinInt)
	}
	for _, g := range wrong {
		refuses(t, other, api.ErrRange, taking(other, g), 0, 1, 5, 100)
	}
	refuses(t, other, api.ErrForm, taking(other, api.Datagram{From: 0, To: 1, Ack: true, Bytes: []byte{1}}), 0, 1, 100)
	// Acknowledgements of what was not sent.
	refuses(t, other, api.ErrRange, taking(other, api.Datagram{From: 0, To: 1, Ack: true, Seq: 0}), 0, 1, 100)
	refuses(t, d, api.ErrRange, taking(d, api.Datagram{From: 1, To: 0, Ack: true, Seq: 3}), 0, 1, 100)
	// Fresh ones that are too long, or that the node does not take.
	long := api.Datagram{From: 0, To: 1, Bytes: make([]byte, api.MaxMessage+1)}
	refuses(t, other, api.ErrForm, taking(other, long), 0, 1, 100, math.MaxInt)
	long.Bytes = long.Bytes[:api.MaxMessage]
	refuses(t, other, api.ErrBytes, taking(other, long), 0, 1, 100)
	for want, b := range map[api.Errno][]byte{
		api.ErrBytes: nil, api.ErrOwner: bytesOf(t, api.Message{Tag: api.Return, Credit: api.Amount{Whole: 1}}), api.ErrForm: bytesOf(t, api.Message{Tag: api.Read, Var: name(3, 0), Credit: api.Amount{Whole: 1}}),
		api.ErrOrder: bytesOf(t, api.Message{Tag: api.Value, Var: name(0, 0), Term: variable(0, 0), Credit: api.Amount{Whole: 1}}),
	} {
		refuses(t, other, want, taking(other, api.Datagram{From: 0, To: 1, Bytes: b}), 0, 1, 5, 100, math.MaxInt)
	}
	if other.Link().Next(0) != 0 {
		t.Error("something was taken")
	}
	// Of one that is not fresh the bytes play no part.
	took(t, other, good)
	if l := took(t, other, api.Datagram{From: 0, To: 1, Seq: 0, Bytes: make([]byte, api.MaxMessage+1)}); len(l) != 1 || !l[0].Ack {
		t.Error(l)
	}
}

func TestTake(t *testing.T) {
	d, other, sent := pairOf(t)
	// Too early: no answer, as nothing was taken yet.
	if l := took(t, other, sent[1]); len(l) > 0 || other.Link().Next(0) != 0 || len(other.Events()) > 0 {
		t.Error(l)
	}
	ack := func(seq int) string {
		return fmt.Sprint([]api.Datagram{{From: 1, To: 0, Ack: true, Seq: seq}})
	}
	done, l, e := other.Take(sent[0], 0)
	if e != api.OK || fmt.Sprint(l) != ack(0) || len(done.Commit)+len(done.Sent) > 0 || len(other.Node().Queue()) != 1 {
		t.Error(done, l, e)
	}
	if l := took(t, other, sent[0]); fmt.Sprint(l) != ack(0) || len(other.Node().Queue()) != 1 {
		t.Error(l)
	}
	if l := took(t, other, sent[2]); fmt.Sprint(l) != ack(0) || len(other.Node().Queue()) != 1 {
		t.Error(l)
	}
	if l := took(t, other, sent[1], sent[2]); len(l) != 2 || l[0].Seq != 1 || l[1].Seq != 2 || len(other.Node().Queue()) != 3 || other.Link().Next(0) != 3 {
		t.Error(l)
	}
	if len(other.Events()) != 3 {
		t.Error(other.Events())
	}
	// What is acknowledged is out of the outbox, until it crashes.
	if l := took(t, d, api.Datagram{From: 1, To: 0, Ack: true, Seq: 1}); len(l) > 0 {
		t.Error(l)
	}
	if l, _ := d.Resend(); len(l) != 1 || l[0].Seq != 2 {
		t.Error(l)
	}
	d.Crash()
	restarts(t, d, 0)
	if l, _ := d.Resend(); fmt.Sprint(l) != fmt.Sprint(sent) {
		t.Error(l)
	}
}

// TestAnswerAheadOfWhatIsSent: the acknowledgement comes first; what wire refuses is left out.
func TestAnswerAheadOfWhatIsSent(t *testing.T) {
	d := durableOf(t, example, 1, 3, 9)
	read := bytesOf(t, api.Message{Tag: api.Ship, Goal: name(0, 0), Term: termOf(t, "w(?2_0)"), Credit: api.Amount{Whole: 1}})
	took(t, d, api.Datagram{From: 0, To: 1, Bytes: read})
	_, sent := did(t, d, step())
	if len(sent) != 2 || sent[0].To != 2 || sent[1].To != 0 || sent[0].Seq != 0 || sent[1].Seq != 0 {
		t.Error(sent)
	}
	value := bytesOf(t, api.Message{Tag: api.Value, Var: name(2, 9), Term: atom("a"), Credit: api.Amount{Whole: 1}})
	done, sent, e := d.Take(api.Datagram{From: 2, To: 1, Bytes: value}, 0)
	if e != api.OK || len(done.Sent) != 1 || len(sent) != 2 || !sent[0].Ack || sent[0].To != 2 || sent[1].Ack || sent[1].To != 0 || sent[1].Seq != 1 {
		t.Error(done, sent, e)
	}
	// Credit that cannot be split: the Read has none, and is left out.
	least := bytesOf(t, api.Message{Tag: api.Ship, Goal: name(0, 0), Term: termOf(t, "w(?2_1)"), Credit: api.Amount{Bits: []int{1 << 20}}})
	took(t, d, api.Datagram{From: 0, To: 1, Seq: 1, Bytes: least})
	done, sent = did(t, d, step())
	if len(done.Sent) != 2 || done.Sent[0].Message.Tag != api.Read || len(sent) != 1 || sent[0].To != 0 || sent[0].Seq != 2 {
		t.Error(done, sent)
	}
	before := linkText(d.Link())
	d.Crash()
	if linkText(d.Link()) != before {
		t.Error(linkText(d.Link()))
	}
}

// TestCutsOfTake: fresh datagrams as other events; where no record would be written, a cut takes it down, too.
func TestCutsOfTake(t *testing.T) {
	d, other, sent := pairOf(t)
	payload, _ := durable.Encode(api.Event{Kind: api.Receive, From: 0, Bytes: sent[0].Bytes})
	record, _ := journal.Record(payload)
	behind := other.Fork()
	took(t, behind, sent[0])
	for _, cut := range append(upTo(len(record)+3), math.MaxInt) {
		f := other.Fork()
		done, l, e := f.Take(sent[0], cut)
		if e != api.OK || len(l) > 0 || f.Up() || len(done.Commit)+len(done.Sent) > 0 {
			t.Fatal(cut, done, l, e)
		}
		want, tail := other, cut-1
		if cut > len(record) {
			want, tail = behind, 0
		}
		restarts(t, f, tail)
		if whole(t, f) != whole(t, want) {
			t.Errorf("cut %d: %s", cut, whole(t, f))
		}
		// It comes again.
		if l := took(t, f, sent[0]); len(l) != 1 || !l[0].Ack || whole(t, f) != whole(t, behind) {
			t.Errorf("cut %d: %v", cut, l)
		}
	}
	for _, g := range []api.Datagram{sent[0], sent[2]} { // came already; comes too early
		for _, cut := range []int{1, 2, 100, math.MaxInt} {
			f := behind.Fork()
			if done, l, e := f.Take(g, cut); e != api.OK || !isZero(done, l) || f.Up() || len(f.Journal().Bytes()) != len(record) {
				t.Error(done, l, e)
			}
			restarts(t, f, 0)
			if whole(t, f) != whole(t, behind) {
				t.Error(whole(t, f))
			}
		}
	}
	f := d.Fork()
	if done, l, e := f.Take(api.Datagram{From: 1, To: 0, Ack: true, Seq: 2}, 1); e != api.OK || !isZero(done, l) || f.Up() {
		t.Error(done, l, e)
	}
	restarts(t, f, 0)
	if whole(t, f) != whole(t, d) {
		t.Error("an acknowledgement with a cut is lost:", whole(t, f))
	}
	if _, l, e := other.Fork().Take(sent[1], 3); e != api.OK || len(l) > 0 {
		t.Error(l, e)
	}
}

func TestUpAndDown(t *testing.T) {
	d, _, sent := pairOf(t)
	if n, e := d.Restart(); n != 0 || e != api.ErrUp || !d.Up() {
		t.Error(n, e)
	}
	before, f := whole(t, d), d.Fork()
	if e := d.Crash(); e != api.OK || d.Up() {
		t.Error(e)
	}
	if e := d.Crash(); e != api.ErrDown {
		t.Error(e)
	}
	if l, e := d.Resend(); e != api.ErrDown || len(l) > 0 {
		t.Error(l, e)
	}
	// Of one that is down: as a restart would make it; the journal as it is.
	if nodeText(t, d.Node()) != nodeText(t, f.Node()) || linkText(d.Link()) != linkText(f.Link()) || journalText(d.Journal()) != journalText(f.Journal()) || fmt.Sprint(d.Events()) != fmt.Sprint(f.Events()) {
		t.Error(whole(t, d))
	}
	down := d.Fork()
	restarts(t, d, 0)
	if whole(t, d) != before || down.Up() {
		t.Error(whole(t, d))
	}
	if l, e := d.Resend(); e != api.OK || fmt.Sprint(l) != fmt.Sprint(sent) {
		t.Error(l, e)
	}
	// A torn journal is told as it is, until it is mended.
	d.Do(collect(), 6)
	if j := d.Journal(); !j.Torn() || len(d.Events()) != 6 {
		t.Error(j.Len())
	}
	restarts(t, d, 5)
	if whole(t, d) != before {
		t.Error(whole(t, d))
	}
	restarts(t, down, 0)
	if whole(t, down) != before {
		t.Error(whole(t, down))
	}
}

func TestEvents(t *testing.T) {
	a, b, sent := pairOf(t)
	took(t, b, sent[0])
	did(t, b, step(), collect())
	none := durableOf(t, example, 0, 1, 0)
	if l := none.Events(); len(l) > 0 {
		t.Error(l)
	}
	if l := none.Events(none, nil, none); len(l) > 0 {
		t.Error(l)
	}
	own := b.Events()
	if len(own) != 3 || !sameEvent(own[0], api.Event{Kind: api.Receive, From: 0, Bytes: sent[0].Bytes}) || !sameEvent(own[1], step()) || !sameEvent(own[2], collect()) {
		t.Error(own)
	}
	first := a.Events()
	if len(first) != 6 || !sameEvent(first[0], submit(t, "q(2) @ 1")) || !sameEvent(first[1], step()) {
		t.Error(first)
	}
	for _, c := range []struct {
		got  []api.Event
		want [][]api.Event
	}{
		{a.Events(b), [][]api.Event{first, own}}, {b.Events(a, nil, b, none, a), [][]api.Event{own, first, own, first}}, {none.Events(a), [][]api.Event{first}}, {a.Events(nil), [][]api.Event{first}}, {a.Events(nil...), [][]api.Event{first}},
	} {
		var want []api.Event
		for _, l := range c.want {
			want = append(want, l...)
		}
		if fmt.Sprint(c.got) != fmt.Sprint(want) {
			t.Errorf("%v, want %v", c.got, want)
		}
	}
	// Down, torn or not.
	b.Do(collect(), 3)
	if l := b.Events(); fmt.Sprint(l) != fmt.Sprint(own) {
		t.Error(l)
	}
}
