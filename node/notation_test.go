package node_test

import (
	"fmt"
	"slices"
	"strconv"
	"strings"
	"testing"

	"purlin/api"
	"purlin/credit"
	"purlin/node"
	"purlin/syntax"
	"purlin/wire"
)

// The tests write events and what they do as texts:
//
//	submit p(X)    step    collect    recv 1 read ?0_0 ; 1    (a message of node 1, with its credit)
//	0.0 p(2) => by 0 & new ?0_1 & 0.1 q(2)    (a commit)    / 1: ship 0.1 q(2) ; 0+1    (a message to node 1)

func name(node, number int) api.Name { return api.Name{Node: node, Number: number} }

func variable(node, n int) api.Term { return api.Term{{Kind: api.Var, Var: name(node, n)}} }

func number(n int) api.Term { return api.Term{{Kind: api.Int, N: n}} }

func atom(s string) api.Term { return api.Term{{Kind: api.Atom, Text: s}} }

func structure(s string, args ...api.Term) api.Term {
	return append(api.Term{{Kind: api.Struct, Text: s, N: len(args)}}, slices.Concat(args...)...)
}

// nested is f(f(..(last)..)) of so many cells.
func nested(cells int, last api.Term) api.Term {
	return append(slices.Repeat(api.Term{{Kind: api.Struct, Text: "f", N: 1}}, cells-len(last)), last...)
}

func termOf(t testing.TB, text string) api.Term {
	t.Helper()
	x, _, e, at := syntax.Term(text)
	if e != api.OK {
		t.Fatalf("%q: %v at %d", text, e, at)
	}
	return x
}

func programOf(t testing.TB, text string) api.Program {
	t.Helper()
	p, e, at := syntax.Program(text)
	if e != api.OK {
		t.Fatalf("%q: %v at %d", text, e, at)
	}
	return p
}

func nodeOf(t testing.TB, program string, i, nodes, budget int) *node.Node {
	t.Helper()
	n, e := node.New(programOf(t, program), i, nodes, budget)
	if e != api.OK {
		t.Fatalf("%q: %v", program, e)
	}
	return n
}

func amountOf(t testing.TB, text string) api.Amount {
	t.Helper()
	a, e := credit.Parse(text)
	if e != api.OK {
		t.Fatalf("amount %q", text)
	}
	return a
}

func nameOf(t testing.TB, text, between string) api.Name {
	t.Helper()
	k, n, _ := strings.Cut(strings.TrimPrefix(text, "?"), between)
	return name(numberOf(t, k), numberOf(t, n))
}

func numberOf(t testing.TB, text string) int {
	t.Helper()
	n, err := strconv.Atoi(text)
	if err != nil {
		t.Fatalf("number %q", text)
	}
	return n
}

// messageOf reads a message: its tag's word, and what wire says of it, in order.
func messageOf(t testing.TB, text string) (m api.Message) {
	t.Helper()
	text, amount, has := strings.Cut(text, " ; ")
	if has {
		m.Credit = amountOf(t, amount)
	}
	l := strings.SplitN(text, " ", 3)
	switch l[0] {
	case "read":
		m.Tag, m.Var = api.Read, nameOf(t, l[1], "_")
	case "value":
		m.Tag, m.Var, m.Term = api.Value, nameOf(t, l[1], "_"), termOf(t, l[2])
	case "ship":
		m.Tag, m.Goal, m.Term = api.Ship, nameOf(t, l[1], "."), termOf(t, l[2])
	case "add":
		m.Tag, m.Var, m.Count = api.Add, nameOf(t, l[1], "_"), numberOf(t, l[2])
	case "release":
		m.Tag, m.Var, m.Count = api.Release, nameOf(t, l[1], "_"), numberOf(t, l[2])
	case "return":
		m.Tag, m.Count, m.Flags = api.Return, numberOf(t, l[1]), numberOf(t, l[2])
	default:
		t.Fatalf("message %q", text)
	}
	return m
}

func bytesOf(t testing.TB, m api.Message) []byte {
	t.Helper()
	b, e := wire.Encode(m)
	if e != api.OK {
		t.Fatalf("%v: %v", m, e)
	}
	return b
}

func eventOf(t testing.TB, text string) api.Event {
	t.Helper()
	word, rest, _ := strings.Cut(text, " ")
	switch word {
	case "step":
		return api.Event{Kind: api.Step}
	case "collect":
		return api.Event{Kind: api.Collect}
	case "submit":
		return api.Event{Kind: api.Submit, Term: termOf(t, rest)}
	case "recv":
		from, message, _ := strings.Cut(rest, " ")
		return api.Event{Kind: api.Receive, From: numberOf(t, from), Bytes: bytesOf(t, messageOf(t, message))}
	}
	t.Fatalf("event %q", text)
	return api.Event{}
}

func textOf(x api.Term) string {
	s, e := syntax.Print(x)
	if e != api.OK {
		return fmt.Sprint("wrong ", x)
	}
	return s
}

func varText(v api.Name) string { return textOf(api.Term{{Kind: api.Var, Var: v}}) }

func goalText(g api.Goal) string {
	return fmt.Sprintf("%d.%d %s", g.Name.Node, g.Name.Number, textOf(g.Term))
}

// listed are texts with " & " between.
func listed[T any](l []T, text func(x T) string) string {
	var texts []string
	for _, x := range l {
		texts = append(texts, text(x))
	}
	return strings.Join(texts, " & ")
}

func messageText(m api.Message) string {
	switch m.Tag {
	case api.Read:
		return "read " + varText(m.Var) + " ; " + credit.Print(m.Credit)
	case api.Value:
		return "value " + varText(m.Var) + " " + textOf(m.Term) + " ; " + credit.Print(m.Credit)
	case api.Ship:
		return "ship " + goalText(api.Goal{Name: m.Goal, Term: m.Term}) + " ; " + credit.Print(m.Credit)
	case api.Add:
		return fmt.Sprint("add ", varText(m.Var), " ", m.Count)
	case api.Release:
		return fmt.Sprint("release ", varText(m.Var), " ", m.Count)
	case api.Return:
		return fmt.Sprint("return ", m.Count, " ", m.Flags, " ; ", credit.Print(m.Credit))
	}
	return fmt.Sprint("no message ", m)
}

func commitText(c api.Commit) string {
	var l []string
	if c.Fails {
		l = append(l, "fails")
	}
	if c.Clause != -1 {
		l = append(l, fmt.Sprint("by ", c.Clause))
	}
	for _, v := range c.Fresh {
		l = append(l, "new "+varText(v))
	}
	for _, b := range c.Bound {
		l = append(l, bindingText(b))
	}
	for _, g := range c.Goals {
		l = append(l, goalText(g))
	}
	return goalText(c.Goal) + " => " + strings.Join(l, " & ")
}

func bindingText(b api.Binding) string { return varText(b.Var) + " := " + textOf(b.Term) }

// doneText is what an event did.
func doneText(d node.Done) string {
	var l []string
	if d.Errno != api.OK {
		l = append(l, fmt.Sprint("error ", d.Errno))
	}
	for _, c := range d.Commit {
		l = append(l, fmt.Sprintf("%s", commitText(c)))
	}
	for _, o := range d.Sent {
		l = append(l, fmt.Sprint(o.To, ": ", messageText(o.Message)))
	}
	return strings.Join(l, " / ")
}

func countText(c node.Count) string { return fmt.Sprint(varText(c.Var), " ", c.Node, " ", c.Times) }

// state is what a node tells of itself, a line each.
func state(n *node.Node) string {
	collected, units := n.Collected()
	return strings.Join([]string{
		"queue " + listed(n.Queue(), goalText),
		"waits " + listed(n.Waiting(), goalText),
		"knows " + listed(n.Heap().Bindings(), bindingText),
		"out " + listed(n.Exports(), countText),
		"in " + listed(n.Imports(), countText),
		"credit " + credit.Print(n.Credit()),
		fmt.Sprint("collected ", credit.Print(collected), " of ", units),
		fmt.Sprint("left ", n.Left()),
		"roots " + listed(n.Roots(), varText),
		fmt.Sprint("verdict ", n.Verdict()),
	}, "\n")
}

// is asks for lines of a node's state.
func is(t testing.TB, n *node.Node, lines ...string) {
	t.Helper()
	for _, line := range lines {
		if all := state(n); !slices.Contains(strings.Split(all, "\n"), line) {
			t.Errorf("%q is not told: %s", line, all)
		}
	}
}

// do does events; each but the last one must have no error: what that did.
func do(t testing.TB, n *node.Node, events ...string) string {
	t.Helper()
	text := ""
	for i, s := range events {
		d := n.Do(eventOf(t, s))
		text = doneText(d)
		if i < len(events)-1 && d.Errno != api.OK {
			t.Fatalf("%s: %s", s, text)
		}
	}
	return text
}

// script does events, each with what it must do behind it.
func script(t testing.TB, n *node.Node, lines ...string) {
	t.Helper()
	for i := 0; i < len(lines); i += 2 {
		if got := do(t, n, lines[i]); got != lines[i+1] {
			t.Fatalf("%s: %s; want %s", lines[i], got, lines[i+1])
		}
	}
}

// refuses does events that have an error each, and change nothing.
func refuses(t testing.TB, n *node.Node, want api.Errno, events ...api.Event) {
	t.Helper()
	for _, e := range events {
		before := whole(t, n)
		if d := n.Do(e); d.Errno != want || len(d.Commit) > 0 || len(d.Sent) > 0 {
			t.Errorf("%v: %s; want error %v", e, doneText(d), want)
		}
		if after := whole(t, n); after != before {
			t.Errorf("%v has changed\n%s\nto\n%s", e, before, after)
		}
	}
}

// whole is all that a node is: what it tells, and what events of all kinds would do, which shows what it does not tell.
func whole(t testing.TB, n *node.Node) string {
	t.Helper()
	l := []string{state(n)}
	f := n.Fork()
	for range 40 {
		if d := f.Do(api.Event{Kind: api.Step}); d.Errno != api.OK {
			break
		} else {
			l = append(l, doneText(d))
		}
	}
	for _, s := range []string{"collect", "submit probe(X, Y)"} {
		f := n.Fork()
		l = append(l, do(t, f, s), state(f))
	}
	for from := range api.MaxNodes {
		for node := range api.MaxNodes {
			for i := range 3 {
				v := varText(name(node, i))
				for _, s := range []string{"read " + v + " ; 1", "value " + v + " a ; 1", "ship 0.99 a = " + v + " ; 1"} {
					f := n.Fork()
					l = append(l, doneText(f.Do(eventOf(t, fmt.Sprint("recv ", from, " ", s)))))
					l = append(l, doneText(f.Do(api.Event{Kind: api.Step})))
				}
			}
		}
		f := n.Fork()
		f.Do(eventOf(t, fmt.Sprint("recv ", from, " return 0 0 ; 0+19")))
		l = append(l, fmt.Sprint(f.Verdict()))
	}
	return strings.Join(l, "\n")
}
