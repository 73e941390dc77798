package refs_test

import (
	"fmt"
	"math/rand"
	"slices"
	"testing"

	"purlin/api"
	"purlin/refs"
	"purlin/term"
)

// slow is a table by the chapter's words: all that was ever counted, added up whenever it is asked for.
type slow struct {
	own, nodes int
	out, in    []refs.Count
}

func (s *slow) isNode(k int) bool { return 0 <= k && k <= s.nodes-1 }

func (s *slow) sent(to int, vars []api.Name) api.Errno {
	if !s.isNode(to) || to == s.own {
		return api.ErrRange
	}
	for _, v := range vars {
		if v.Node != s.own {
			return api.ErrNone
		}
	}
	for _, v := range vars {
		s.out = append(s.out, refs.Count{Var: v, Node: to, Times: 1})
	}
	return api.OK
}

func (s *slow) added(v api.Name, holder int) api.Errno {
	if !s.isNode(holder) {
		return api.ErrRange
	}
	if v.Node != s.own {
		return api.ErrNone
	}
	if holder != s.own {
		s.out = append(s.out, refs.Count{Var: v, Node: holder, Times: 1})
	}
	return api.OK
}

func (s *slow) released(v api.Name, from, times int) api.Errno {
	if !s.isNode(from) || from == s.own || times <= 0 || times >= 1<<31 {
		return api.ErrRange
	}
	if v.Node != s.own {
		return api.ErrNone
	}
	s.out = append(s.out, refs.Count{Var: v, Node: from, Times: -times})
	return api.OK
}

func (s *slow) got(vars []api.Name) api.Errno {
	for _, v := range vars {
		if !s.isNode(v.Node) {
			return api.ErrNone
		}
	}
	for _, v := range vars {
		if v.Node != s.own {
			s.in = append(s.in, refs.Count{Var: v, Node: v.Node, Times: 1})
		}
	}
	return api.OK
}

func (s *slow) held(v api.Name) int {
	n := 0
	for _, c := range s.in {
		if c.Var == v {
			n += c.Times
		}
	}
	return n
}

func (s *slow) free(v api.Name) int {
	n := s.held(v)
	s.in = append(s.in, refs.Count{Var: v, Node: v.Node, Times: -n})
	return n
}

func (s *slow) fork() *slow {
	return &slow{s.own, s.nodes, slices.Clone(s.out), slices.Clone(s.in)}
}

// sums are counts added up, without those that are 0, in order, brought there by exchanges.
func sums(l []refs.Count) []refs.Count {
	var all []refs.Count
	for _, c := range l {
		i := slices.IndexFunc(all, func(d refs.Count) bool { return d.Var == c.Var && d.Node == c.Node })
		if i >= 0 {
			all[i].Times += c.Times
			continue
		}
		all = append(all, c)
	}
	all = slices.DeleteFunc(all, func(c refs.Count) bool { return c.Times == 0 })
	for range all {
		for i := range len(all) - 1 {
			a, b := all[i], all[i+1]
			if term.Less(b.Var, a.Var) || a.Var == b.Var && b.Node < a.Node {
				all[i], all[i+1] = b, a
			}
		}
	}
	return all
}

func few() (l []api.Name) {
	for i := range 12 {
		l = append(l, name(i%6-1, 5-i/6))
	}
	return l
}

func (s *slow) text() string {
	out, in := sums(s.out), sums(s.in)
	text := fmt.Sprint(out, in, variables(out), variables(in))
	for _, v := range few() {
		exported := slices.ContainsFunc(out, func(c refs.Count) bool { return c.Var == v })
		text += fmt.Sprint(exported, s.held(v))
	}
	return text
}

// text is all that a table tells.
func text(r *refs.Table) string {
	n, m := r.Len()
	s := fmt.Sprint(r.Exports(), r.Imports(), n, m)
	for _, v := range few() {
		s += fmt.Sprint(r.Exported(v), r.Held(v))
	}
	return s
}

// someNames are a few, most of them of one node, if that is one.
func someNames(r *rand.Rand, node int) (l []api.Name) {
	for range r.Intn(4) {
		v := few()[r.Intn(12)]
		if r.Intn(5) > 0 {
			v.Node = node
		}
		l = append(l, v)
	}
	return l
}

// do does one call, by chance, on both; it tells which.
func do(t *testing.T, r *rand.Rand, table *refs.Table, s *slow) string {
	t.Helper()
	k := r.Intn(s.nodes+2) - 1
	v := few()[r.Intn(12)]
	if r.Intn(4) > 0 {
		v.Node = s.own
	}
	what, got, want := "", 0, 0
	switch r.Intn(5) {
	case 0:
		l := someNames(r, s.own)
		what, got, want = "sent", int(table.Sent(k, l...)), int(s.sent(k, l))
	case 1:
		what, got, want = "added", int(table.Added(v, k)), int(s.added(v, k))
	case 2:
		times := r.Intn(5)
		if r.Intn(20) == 0 {
			times = 1<<31 - r.Intn(3)
		}
		what, got, want = "released", int(table.Released(v, k, times)), int(s.released(v, k, times))
	case 3:
		l := someNames(r, r.Intn(s.nodes))
		what, got, want = "got", int(table.Got(l...)), int(s.got(l))
	case 4:
		v = few()[r.Intn(12)]
		what, got, want = "free", table.Free(v), s.free(v)
	}
	if got != want {
		t.Fatalf("%s: %d, want %d", what, got, want)
	}
	if what == "free" {
		got = min(got, 2)
	}
	return fmt.Sprint(what, " ", got)
}

// TestRunsByTheirWords is P16.1 to P16.3 over runs of calls.
func TestRunsByTheirWords(t *testing.T) {
	count := map[string]int{}
	for seed := range 300 {
		r := rand.New(rand.NewSource(int64(seed)))
		nodes := 1 + seed%api.MaxNodes
		s := &slow{own: r.Intn(nodes), nodes: nodes}
		table := made(t, s.own, nodes)
		for range 100 {
			before := s.text()
			what := do(t, r, table, s)
			count[what]++
			if got, want := text(table), s.text(); got != want {
				t.Fatalf("behind %s of %s: %s, want %s", what, before, got, want)
			}
		}
	}
	for _, what := range []string{
		"sent 0", "sent 2", "sent 4", "added 0", "added 2", "added 4", "released 0", "released 2", "released 4",
		"got 0", "got 4", "free 0", "free 1", "free 2",
	} {
		if count[what] < 100 {
			t.Errorf("%s came up %d times alone", what, count[what])
		}
	}
}

// TestForksGoTheirOwnWay is P4: many tables, each forked from another one, hold what they must.
func TestForksGoTheirOwnWay(t *testing.T) {
	for seed := range 60 {
		r := rand.New(rand.NewSource(int64(1000 + seed)))
		nodes := 2 + seed%3
		tables, all := []*refs.Table{made(t, 1, nodes)}, []*slow{{own: 1, nodes: nodes}}
		for range 400 {
			i := r.Intn(len(tables))
			if r.Intn(20) == 0 && len(tables) < 12 {
				tables, all = append(tables, tables[i].Fork()), append(all, all[i].fork())
				continue
			}
			do(t, r, tables[i], all[i])
		}
		for i := range tables {
			if got, want := text(tables[i]), all[i].text(); got != want {
				t.Fatalf("table %d of %d: %s, want %s", i, len(tables), got, want)
			}
		}
	}
}

// step is a call that changes exports, of node 0 of four.
type step func(r *refs.Table) api.Errno

func someSteps(r *rand.Rand, many int) (l []step) {
	for range many {
		k, v, w, times := 1+r.Intn(3), name(0, r.Intn(3)), name(0, r.Intn(3)), 1+r.Intn(4)
		l = append(l, []step{
			func(t *refs.Table) api.Errno { return t.Sent(k, v, w, v) },
			func(t *refs.Table) api.Errno { return t.Added(v, k) },
			func(t *refs.Table) api.Errno { return t.Released(v, k, times) },
		}[r.Intn(3)])
	}
	return l
}

func behind(t *testing.T, l []step) string {
	t.Helper()
	table := made(t, 0, 4)
	for _, s := range l {
		is(t, s(table), api.OK)
	}
	n, m := table.Len()
	return fmt.Sprint(table.Exports(), n, m)
}

// orders yields all orders of a list.
func orders(l []step, yield func(l []step)) {
	var place func(at int)
	place = func(at int) {
		if at == len(l) {
			yield(l)
		}
		for i := at; i < len(l); i++ {
			l[at], l[i] = l[i], l[at]
			place(at + 1)
			l[at], l[i] = l[i], l[at]
		}
	}
	place(0)
}

// TestOrderDoesNotMatter is P16.4: in all orders of a few calls, and in some of many.
func TestOrderDoesNotMatter(t *testing.T) {
	for seed := range 12 {
		r := rand.New(rand.NewSource(int64(2000 + seed)))
		l := someSteps(r, 6)
		want := behind(t, l)
		orders(slices.Clone(l), func(l []step) {
			if got := behind(t, l); got != want {
				t.Fatalf("%s, want %s", got, want)
			}
		})
		l = someSteps(r, 60)
		want = behind(t, l)
		for range 50 {
			r.Shuffle(len(l), func(i, j int) { l[i], l[j] = l[j], l[i] })
			if got := behind(t, l); got != want {
				t.Fatalf("%s, want %s", got, want)
			}
		}
	}
}

// TestAllIsReleased is P16.5: sent so often, told to be sent so often, and released as often, in any order and in any parts.
func TestAllIsReleased(t *testing.T) {
	x := name(0, 8)
	for seed := range 100 {
		r := rand.New(rand.NewSource(int64(3000 + seed)))
		var l []step
		for k := 1; k < 4; k++ {
			n := r.Intn(12)
			for range n {
				if r.Intn(2) == 0 {
					l = append(l, func(t *refs.Table) api.Errno { return t.Sent(k, x) })
				} else {
					l = append(l, func(t *refs.Table) api.Errno { return t.Added(x, k) })
				}
			}
			for n > 0 {
				part := 1 + r.Intn(n)
				n -= part
				l = append(l, func(t *refs.Table) api.Errno { return t.Released(x, k, part) })
			}
		}
		r.Shuffle(len(l), func(i, j int) { l[i], l[j] = l[j], l[i] })
		if got := behind(t, l); got != "[] 0 0" {
			t.Fatal(got)
		}
	}
}

// wipe writes over a list, and over what lies behind its end.
func wipe[E any](l []E, with E) {
	for i := range l[:cap(l)] {
		l[:cap(l)][i] = with
	}
}

// TestNothingIsShared is P3: what is handed in stays, spare room too, and is not kept; what is answered is the caller's.
func TestNothingIsShared(t *testing.T) {
	marked := name(77, 77)
	for seed := range 40 {
		r := rand.New(rand.NewSource(int64(4000 + seed)))
		table, s := made(t, 0, 3), &slow{nodes: 3}
		for range 40 {
			l := append(make([]api.Name, 0, 8), someNames(r, r.Intn(3))...)
			for i := range l[len(l):8] {
				l[len(l):8][i] = marked
			}
			before := fmt.Sprint(l[:8])
			is(t, table.Sent(1, l...), s.sent(1, l))
			is(t, table.Got(l...), s.got(l))
			if fmt.Sprint(l[:8]) != before {
				t.Fatalf("%v, was %s", l[:8], before)
			}
			wipe(l, marked)
			f := table.Fork()
			for _, told := range []func() []refs.Count{table.Exports, table.Imports, f.Exports, f.Imports} {
				first, second := told(), told()
				want := fmt.Sprint(second)
				wipe(first, refs.Count{Var: marked})
				if fmt.Sprint(second) != want {
					t.Fatal("an answer lies in another one")
				}
				wipe(second, refs.Count{Var: marked})
			}
			if got, want := text(table), s.text(); got != want || text(f) != want {
				t.Fatalf("%s, want %s", got, want)
			}
		}
	}
}

// TestAnythingEnds is P1: no call panics, whatever it is given.
func TestAnythingEnds(t *testing.T) {
	numbers := append(slices.Clone(noNodes), 0, 1, 2, 3, 1<<31-1, 1<<31)
	for _, r := range []*refs.Table{nil, made(t, 0, 1), made(t, 1, 2), made(t, 3, 4)} {
		for _, a := range numbers {
			for _, b := range numbers {
				v := name(a, b)
				for _, c := range numbers {
					r.Sent(c, v, v)
					r.Added(v, c)
					for _, d := range numbers {
						r.Released(v, c, d)
					}
				}
				r.Got(v)
				r.Held(v)
				r.Exported(v)
			}
		}
		r.Len()
		r.Fits(r)
		r.Fits(nil)
		for _, c := range slices.Concat(r.Fork().Exports(), r.Imports()) {
			r.Free(c.Var)
		}
	}
}
