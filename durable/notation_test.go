package durable_test

import (
	"fmt"
	"slices"
	"strings"
	"testing"

	"purlin/api"
	"purlin/durable"
	"purlin/journal"
	"purlin/link"
	"purlin/node"
	"purlin/syntax"
	"purlin/wire"
)

const example = "p(X) :- X > 0 | q(X) @ 1. q(X) :- Y := X + 1, r(Y). r(3). w(a). s(X) :- s(X)."

func name(node, number int) api.Name { return api.Name{Node: node, Number: number} }

func variable(node, n int) api.Term { return api.Term{{Kind: api.Var, Var: name(node, n)}} }

func number(n int) api.Term { return api.Term{{Kind: api.Int, N: n}} }

func atom(s string) api.Term { return api.Term{{Kind: api.Atom, Text: s}} }

func structure(s string, args ...api.Term) api.Term {
	return append(api.Term{{Kind: api.Struct, Text: s, N: len(args)}}, slices.Concat(args...)...)
}

func termOf(t testing.TB, text string) api.Term {
	t.Helper()
	x, _, e, at := syntax.Term(text)
	if e != api.OK {
		t.Fatalf("%q: %v at %d", text, e, at)
	}
	return x
}

func programOf(t testing.TB, text string) api.Program {
	t.Helper()
	p, e, at := syntax.Program(text)
	if e != api.OK {
		t.Fatalf("%q: %v at %d", text, e, at)
	}
	return p
}

func durableOf(t testing.TB, program string, i, nodes, budget int) *durable.Durable {
	t.Helper()
	d, e := durable.New(programOf(t, program), i, nodes, budget)
	if e != api.OK {
		t.Fatalf("%q: %v", program, e)
	}
	return d
}

func step() api.Event { return api.Event{Kind: api.Step} }

func collect() api.Event { return api.Event{Kind: api.Collect} }

func submit(t testing.TB, goal string) api.Event {
	t.Helper()
	return api.Event{Kind: api.Submit, Term: termOf(t, goal)}
}

func bytesOf(t testing.TB, m api.Message) []byte {
	t.Helper()
	b, e := wire.Encode(m)
	if e != api.OK {
		t.Fatalf("%v: %v", m, e)
	}
	return b
}

// shipped is a message that brings a goal, with a unit.
func shipped(t testing.TB, goal string) []byte {
	t.Helper()
	return bytesOf(t, api.Message{Tag: api.Ship, Goal: name(0, 77), Term: termOf(t, goal), Credit: api.Amount{Whole: 1}})
}

// did does events without a cut; none may have an error: what the last one did and sent.
func did(t testing.TB, d *durable.Durable, events ...api.Event) (done node.Done, sent []api.Datagram) {
	t.Helper()
	for _, e := range events {
		var errno api.Errno
		if done, sent, errno = d.Do(e, 0); errno != api.OK {
			t.Fatalf("%v: %v", e, errno)
		}
	}
	return done, sent
}

func took(t testing.TB, d *durable.Durable, l ...api.Datagram) (sent []api.Datagram) {
	t.Helper()
	for _, g := range l {
		_, out, errno := d.Take(g, 0)
		if errno != api.OK {
			t.Fatalf("%v: %v", g, errno)
		}
		sent = append(sent, out...)
	}
	return sent
}

func restarts(t testing.TB, d *durable.Durable, tail int) {
	t.Helper()
	if n, e := d.Restart(); n != tail || e != api.OK {
		t.Errorf("Restart: %d, %v; want %d", n, e, tail)
	}
}

// nodeText is what a node tells, and what it would do, which shows what it does not tell.
func nodeText(t testing.TB, n *node.Node) string {
	t.Helper()
	if n == nil {
		return "none"
	}
	tells := func(n *node.Node) string {
		a, units := n.Collected()
		return fmt.Sprint(n.Queue(), n.Waiting(), n.Heap().Bindings(), n.Exports(), n.Imports(), n.Credit(), a, units, n.Verdict(), n.Left(), n.Roots())
	}
	l := []string{tells(n)}
	for f, k := n.Fork(), 0; k < 12; k++ {
		d := f.Do(step())
		if l = append(l, fmt.Sprint(d)); d.Errno != api.OK {
			break
		}
	}
	f := n.Fork()
	l = append(l, fmt.Sprint(f.Do(collect())), tells(f), fmt.Sprint(n.Fork().Do(submit(t, "probe(X)"))))
	for from := range api.MaxNodes {
		for owner := range api.MaxNodes {
			for _, m := range []api.Message{
				{Tag: api.Read, Var: name(owner, 0), Credit: api.Amount{Whole: 1}}, {Tag: api.Value, Var: name(owner, 0), Term: atom("a"), Credit: api.Amount{Whole: 1}},
				{Tag: api.Ship, Goal: name(0, 99), Term: structure("w", variable(owner, 0)), Credit: api.Amount{Whole: 1}},
			} {
				f := n.Fork()
				l = append(l, fmt.Sprint(f.Do(api.Event{Kind: api.Receive, From: from, Bytes: bytesOf(t, m)}), f.Do(step())))
			}
		}
	}
	return strings.Join(l, "\n")
}

func linkText(l *link.Link) string {
	if l == nil {
		return "none"
	}
	text := fmt.Sprint(l.Outbox())
	for k := range api.MaxNodes {
		text += fmt.Sprint(" ", l.Next(k), l.Sent(k))
	}
	return text
}

func journalText(l *journal.Log) string {
	return fmt.Sprint(l.Bytes(), l.Torn(), l.Payloads())
}

// whole is all that a durable is.
func whole(t testing.TB, d *durable.Durable) string {
	t.Helper()
	again, e := d.Resend()
	return strings.Join([]string{fmt.Sprint(d.Up(), again, e, d.Events()), nodeText(t, d.Node()), linkText(d.Link()), journalText(d.Journal())}, "\n\n")
}
