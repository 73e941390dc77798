package owner_test

import (
	"fmt"
	"math/rand"
	"slices"
	"testing"

	"purlin/api"
	"purlin/owner"
	"purlin/term"
)

// asked is that a node waits for a variable.
type asked struct {
	v    api.Name
	node int
}

// slow is a table by the chapter's words: two lists, gone through from the front.
type slow struct {
	row    []asked
	wanted []api.Name
}

func (s *slow) ask(v api.Name, node int) bool {
	if slices.Contains(s.row, asked{v, node}) {
		return false
	}
	s.row = append(s.row, asked{v, node})
	return true
}

func (s *slow) waiters(v api.Name) []int {
	var l []int
	for _, a := range s.row {
		if a.v == v {
			l = append(l, a.node)
		}
	}
	return l
}

func (s *slow) tell(v api.Name) []int {
	l := s.waiters(v)
	s.row = slices.DeleteFunc(s.row, func(a asked) bool { return a.v == v })
	return l
}

func (s *slow) want(v api.Name) bool {
	if slices.Contains(s.wanted, v) {
		return false
	}
	s.wanted = append(s.wanted, v)
	return true
}

func (s *slow) got(l []api.Name) {
	s.wanted = slices.DeleteFunc(s.wanted, func(v api.Name) bool { return slices.Contains(l, v) })
}

func (s *slow) fork() *slow { return &slow{slices.Clone(s.row), slices.Clone(s.wanted)} }

// rising are names, each once, in the order of term.Less, brought there by exchanges.
func rising(l []api.Name) []api.Name {
	var r []api.Name
	for _, v := range l {
		if slices.Contains(r, v) {
			continue
		}
		r = append(r, v)
		for i := len(r) - 1; i > 0 && term.Less(r[i], r[i-1]); i-- {
			r[i], r[i-1] = r[i-1], r[i]
		}
	}
	return r
}

func few() (l []api.Name) {
	for i := range 6 {
		l = append(l, name(i%3-1, 10-i))
	}
	return l
}

func (s *slow) text() string {
	var all []api.Name
	for _, a := range s.row {
		all = append(all, a.v)
	}
	text := fmt.Sprint(rising(s.wanted), rising(all))
	for _, v := range few() {
		text += fmt.Sprint(s.waiters(v))
	}
	return text
}

func text(o *owner.Table) string {
	s := fmt.Sprint(o.Wanted(), o.Asked())
	for _, v := range few() {
		s += fmt.Sprint(o.Waiters(v))
	}
	return s
}

func someNames(r *rand.Rand) (l []api.Name) {
	for range r.Intn(4) {
		l = append(l, few()[r.Intn(6)])
	}
	return l
}

// do does one call, by chance, on both; it tells which.
func do(t *testing.T, r *rand.Rand, o *owner.Table, s *slow) string {
	t.Helper()
	v, node := few()[r.Intn(6)], r.Intn(6)-1
	switch r.Intn(8) {
	case 0, 1, 2, 3:
		got, want := o.Ask(v, node), s.ask(v, node)
		if got != want {
			t.Fatalf("Ask(%v, %d): %v, want %v", v, node, got, want)
		}
		return fmt.Sprint("ask ", got)
	case 4:
		got, want := o.Tell(v), s.tell(v)
		if !slices.Equal(got, want) {
			t.Fatalf("Tell(%v): %v, want %v", v, got, want)
		}
		return fmt.Sprint("tell ", min(len(got), 2))
	case 5, 6:
		got, want := o.Want(v), s.want(v)
		if got != want {
			t.Fatalf("Want(%v): %v, want %v", v, got, want)
		}
		return fmt.Sprint("want ", got)
	}
	l := someNames(r)
	o.Got(l...)
	s.got(l)
	return fmt.Sprint("got ", min(len(l), 2))
}

// TestRunsByTheirWords is P15.1 to P15.3 over runs of calls.
func TestRunsByTheirWords(t *testing.T) {
	count := map[string]int{}
	for seed := range 200 {
		r := rand.New(rand.NewSource(int64(seed)))
		o, s := owner.New(), &slow{}
		for range 100 {
			before := s.text()
			what := do(t, r, o, s)
			count[what]++
			if got, want := text(o), s.text(); got != want {
				t.Fatalf("behind %s of %s: %s, want %s", what, before, got, want)
			}
			for _, v := range few() {
				l := o.Waiters(v)
				slices.Sort(l)
				if len(slices.Compact(slices.Clone(l))) != len(l) {
					t.Fatalf("a node waits twice: %v", l)
				}
			}
		}
	}
	for _, what := range []string{"ask true", "ask false", "tell 0", "tell 1", "tell 2", "want true", "want false", "got 0", "got 1", "got 2"} {
		if count[what] < 200 {
			t.Errorf("%s came up %d times alone", what, count[what])
		}
	}
}

// TestForksGoTheirOwnWay is P4: many tables, each forked from another one, hold what they must.
func TestForksGoTheirOwnWay(t *testing.T) {
	for seed := range 60 {
		r := rand.New(rand.NewSource(int64(1000 + seed)))
		tables, all := []*owner.Table{owner.New()}, []*slow{{}}
		for range 400 {
			i := r.Intn(len(tables))
			if r.Intn(20) == 0 && len(tables) < 12 {
				tables, all = append(tables, tables[i].Fork()), append(all, all[i].fork())
				continue
			}
			do(t, r, tables[i], all[i])
		}
		for i, o := range tables {
			if got, want := text(o), all[i].text(); got != want {
				t.Fatalf("table %d of %d: %s, want %s", i, len(tables), got, want)
			}
		}
	}
}

// call is one that concerns one variable.
type call struct {
	what int
	v    api.Name
	node int
}

func (c call) of(o *owner.Table) string {
	switch c.what {
	case 0, 1:
		return fmt.Sprint(o.Ask(c.v, c.node))
	case 2:
		return fmt.Sprint(o.Tell(c.v))
	case 3:
		return fmt.Sprint(o.Want(c.v))
	}
	o.Got(c.v)
	return ""
}

// TestOneVariableLeavesTheOthers is P15.4: of a run each variable has the answers, and is left, as by its own calls alone.
func TestOneVariableLeavesTheOthers(t *testing.T) {
	for seed := range 60 {
		r := rand.New(rand.NewSource(int64(2000 + seed)))
		var calls []call
		for range 80 {
			calls = append(calls, call{r.Intn(5), few()[r.Intn(6)], r.Intn(3)})
		}
		together := owner.New()
		answers := map[api.Name]string{}
		for _, c := range calls {
			answers[c.v] += c.of(together)
		}
		for _, v := range few() {
			alone, said := owner.New(), ""
			for _, c := range calls {
				if c.v == v {
					said += c.of(alone)
				}
			}
			if said != answers[v] || !slices.Equal(alone.Waiters(v), together.Waiters(v)) ||
				slices.Contains(alone.Wanted(), v) != slices.Contains(together.Wanted(), v) ||
				slices.Contains(alone.Asked(), v) != slices.Contains(together.Asked(), v) {
				t.Fatalf("%v: %s, alone %s; %s, alone %s", v, answers[v], said, text(together), text(alone))
			}
		}
	}
}

// wipe writes over a list, and over what lies behind its end.
func wipe[E any](l []E, with E) {
	for i := range l[:cap(l)] {
		l[:cap(l)][i] = with
	}
}

// TestNothingIsShared is P3: what is handed in stays, spare room too, and is not kept; what is answered is the caller's.
func TestNothingIsShared(t *testing.T) {
	marked := name(77, 77)
	for seed := range 40 {
		r := rand.New(rand.NewSource(int64(3000 + seed)))
		o, s := owner.New(), &slow{}
		for range 60 {
			do(t, r, o, s)
			l := append(make([]api.Name, 0, 8), someNames(r)...)
			for i := range l[len(l):8] {
				l[len(l):8][i] = marked
			}
			before := fmt.Sprint(l[:8])
			o.Got(l...)
			s.got(l)
			if fmt.Sprint(l[:8]) != before {
				t.Fatalf("%v, was %s", l[:8], before)
			}
			wipe(l, marked)
			f := o.Fork()
			for _, v := range few() {
				first, second := o.Waiters(v), o.Waiters(v)
				wipe(first, 99)
				if !slices.Equal(second, s.waiters(v)) {
					t.Fatal("an answer lies in another one")
				}
				wipe(second, 99)
			}
			wipe(o.Wanted(), marked)
			wipe(o.Asked(), marked)
			v := few()[r.Intn(6)]
			wipe(f.Tell(v), 99)
			if r.Intn(4) == 0 {
				wipe(o.Tell(v), 99)
				s.tell(v)
			}
			if got, want := text(o), s.text(); got != want {
				t.Fatalf("%s, want %s", got, want)
			}
		}
	}
}

// cluster is nodes that ask one another for values as chapter 19 says; only the ways of messages are left out.
type cluster struct {
	tables []*owner.Table
	bound  map[api.Name]int
	knows  []map[api.Name]int
	reads  []asked // under way to the owner
	values []asked // under way to the node
}

func newCluster(nodes int) *cluster {
	c := &cluster{bound: map[api.Name]int{}}
	for range nodes {
		c.tables, c.knows = append(c.tables, owner.New()), append(c.knows, map[api.Name]int{})
	}
	return c
}

func (c *cluster) need(node int, v api.Name) {
	if _, known := c.knows[node][v]; !known && v.Node != node && c.tables[node].Want(v) {
		c.reads = append(c.reads, asked{v, node})
	}
}

func (c *cluster) read(i int) {
	a := c.reads[i]
	c.reads = slices.Delete(c.reads, i, i+1)
	if _, is := c.bound[a.v]; is {
		c.values = append(c.values, a)
	} else {
		c.tables[a.v.Node].Ask(a.v, a.node)
	}
}

func (c *cluster) bind(v api.Name, n int) {
	if _, is := c.bound[v]; is {
		return
	}
	c.bound[v] = n
	for _, node := range c.tables[v.Node].Tell(v) {
		c.values = append(c.values, asked{v, node})
	}
}

func (c *cluster) value(i int) {
	a := c.values[i]
	c.values = slices.Delete(c.values, i, i+1)
	c.knows[a.node][a.v] = c.bound[a.v]
	c.tables[a.node].Got(a.v)
}

// TestEachAnswerComesOnce: who wants a value has asked for it once, and it is under way to be asked, waited for, or under way to be told; at the end all know it.
func TestEachAnswerComesOnce(t *testing.T) {
	for seed := range 60 {
		r := rand.New(rand.NewSource(int64(4000 + seed)))
		c := newCluster(api.MaxNodes)
		for i := 0; i < 300 || len(c.reads)+len(c.values) > 0; i++ {
			node, v := r.Intn(api.MaxNodes), name(r.Intn(api.MaxNodes), r.Intn(3))
			switch what := r.Intn(5); {
			case what < 2 && i < 200:
				c.need(node, v)
			case what == 2 && (r.Intn(10) == 0 || i > 200):
				c.bind(v, i)
			case what == 3 && len(c.reads) > 0:
				c.read(r.Intn(len(c.reads)))
			case what == 4 && len(c.values) > 0:
				c.value(r.Intn(len(c.values)))
			}
			c.holds(t)
		}
		for i, o := range c.tables {
			for number := range 3 {
				c.bind(name(i, number), 0)
			}
			for len(c.values) > 0 {
				c.value(0)
			}
			if len(o.Asked()) != 0 {
				t.Fatal(i, o.Asked())
			}
		}
		for i, o := range c.tables {
			if len(o.Wanted()) != 0 {
				t.Fatal(i, o.Wanted())
			}
		}
	}
}

func (c *cluster) holds(t *testing.T) {
	t.Helper()
	for node, o := range c.tables {
		for k := range c.tables {
			for number := range 3 {
				a, times := asked{name(k, number), node}, 0
				for _, b := range slices.Concat(c.reads, c.values) {
					if b == a {
						times++
					}
				}
				if slices.Contains(c.tables[k].Waiters(a.v), node) {
					times++
				}
				if wanted := slices.Contains(o.Wanted(), a.v); times > 1 || wanted != (times == 1) {
					t.Fatalf("node %d, %v: wanted %v, %d times on its way", node, a.v, wanted, times)
				}
			}
		}
	}
}
