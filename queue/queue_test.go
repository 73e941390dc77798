package queue_test

import (
	"math"
	"slices"
	"strconv"
	"strings"
	"testing"

	"purlin/api"
	"purlin/queue"
	"purlin/term"
)

// The calls have the forms that chapter 10 lists.
var (
	_ func() *queue.Queue                                 = queue.New
	_ func(*queue.Queue, ...api.Goal) api.Errno           = (*queue.Queue).Put
	_ func(*queue.Queue) (api.Goal, bool)                 = (*queue.Queue).Next
	_ func(*queue.Queue) (api.Goal, bool)                 = (*queue.Queue).Peek
	_ func(*queue.Queue, api.Goal, ...api.Name) api.Errno = (*queue.Queue).Wait
	_ func(*queue.Queue, ...api.Name) []api.Goal          = (*queue.Queue).Wake
	_ func(*queue.Queue) []api.Goal                       = (*queue.Queue).Ready
	_ func(*queue.Queue) []api.Goal                       = (*queue.Queue).Waiting
	_ func(*queue.Queue, api.Name) []api.Name             = (*queue.Queue).On
	_ func(*queue.Queue) []api.Name                       = (*queue.Queue).Vars
	_ func(*queue.Queue, api.Name) bool                   = (*queue.Queue).Has
	_ func(*queue.Queue) (ready, waiting int)             = (*queue.Queue).Len
	_ func(*queue.Queue) *queue.Queue                     = (*queue.Queue).Fork
	_ interface{ Put(l ...api.Goal) api.Errno }           = (*queue.Queue)(nil)
	_ interface {
		Wait(api.Goal, ...api.Name) api.Errno
	} = (*queue.Queue)(nil)
	_ interface {
		Wake(vars ...api.Name) (goals []api.Goal)
	} = (*queue.Queue)(nil)
)

func name(node, number int) api.Name { return api.Name{Node: node, Number: number} }

// of is a goal with a small letter as its term, by whose place in the alphabet it is named.
func of(letter string) api.Goal {
	return api.Goal{Name: name(0, int(letter[0]-'a')), Term: api.Term{{Kind: api.Atom, Text: letter}}}
}

func all(letters string) []api.Goal {
	var l []api.Goal
	for _, s := range strings.Fields(letters) {
		l = append(l, of(s))
	}
	return l
}

// letters are the terms of goals.
func letters(l []api.Goal) string {
	var s []string
	for _, g := range l {
		s = append(s, g.Term[0].Text)
	}
	return strings.Join(s, " ")
}

var x, y, z = name(0, 100), name(1, 0), name(3, 7)

// tells holds what a queue tells against goals that can go, and goals that wait.
func tells(t *testing.T, q *queue.Queue, ready, waiting string) {
	t.Helper()
	if got := letters(q.Ready()); got != ready {
		t.Errorf("Ready: %s, want %s", got, ready)
	}
	if got := letters(q.Waiting()); got != waiting {
		t.Errorf("Waiting: %s, want %s", got, waiting)
	}
	n, m := q.Len()
	if n != len(strings.Fields(ready)) || m != len(strings.Fields(waiting)) {
		t.Errorf("Len: %d, %d", n, m)
	}
	for c := range 26 {
		letter := string(rune('a' + c))
		if q.Has(name(0, c)) != strings.Contains(ready+waiting, letter) {
			t.Errorf("Has %s: %v", letter, q.Has(name(0, c)))
		}
		if (len(q.On(name(0, c))) > 0) != strings.Contains(waiting, letter) {
			t.Errorf("On %s: %v", letter, q.On(name(0, c)))
		}
	}
	g, ok := q.Peek()
	if ok != (ready != "") || ok && g.Term[0].Text != ready[:1] || !ok && (g.Name != api.Name{} || len(g.Term) > 0) {
		t.Errorf("Peek: %v, %v", g, ok)
	}
}

func TestExamples(t *testing.T) {
	q := queue.New()
	if e := q.Put(all("a b")...); e != api.OK {
		t.Error(e)
	}
	if e := q.Wait(of("c"), x, y); e != api.OK {
		t.Error(e)
	}
	tells(t, q, "a b", "c")
	if got := letters(q.Wake(y)); got != "c" {
		t.Error(got)
	}
	tells(t, q, "a b c", "")
	q = queue.New()
	if e := q.Wait(of("c"), x, x); e != api.OK || !slices.Equal(q.On(of("c").Name), []api.Name{x}) {
		t.Error(e, q.On(of("c").Name))
	}
	if e := q.Wait(of("d")); e != api.ErrNone {
		t.Error(e)
	}
	tells(t, q, "", "c")
}

func TestGoalsThatCanGo(t *testing.T) {
	q := queue.New()
	tells(t, q, "", "")
	if e := q.Put(); e != api.OK {
		t.Error(e)
	}
	tells(t, q, "", "")
	for _, l := range []string{"a", "b c", "", "d e f", "a"} {
		if e := q.Put(all(l)...); e != api.OK {
			t.Error(e)
		}
	}
	tells(t, q, "a b c d e f a", "")
	for _, want := range strings.Fields("a b c") {
		p, _ := q.Peek()
		g, ok := q.Next()
		if !ok || g.Term[0].Text != want || g.Name != of(want).Name || g.Name != p.Name || !term.Equal(g.Term, p.Term) {
			t.Errorf("Next: %v, %v; want %s", g, ok, want)
		}
	}
	tells(t, q, "d e f a", "")
	q.Put(all("g h")...)
	for _, want := range strings.Fields("d e f a g h") {
		if g, ok := q.Next(); !ok || g.Term[0].Text != want {
			t.Errorf("Next: %v, %v; want %s", g, ok, want)
		}
	}
	for range 2 {
		if g, ok := q.Next(); ok || (g.Name != api.Name{}) || len(g.Term) > 0 {
			t.Error(g, ok)
		}
		tells(t, q, "", "")
	}
	q.Put(of("z"))
	tells(t, q, "z", "")
}

func TestGoalsThatWait(t *testing.T) {
	q := queue.New()
	for _, w := range []struct {
		goal string
		vars []api.Name
		on   []api.Name
	}{
		{"a", []api.Name{z}, []api.Name{z}}, {"b", []api.Name{y, x, y, y, x}, []api.Name{y, x}}, {"c", []api.Name{x, x, x}, []api.Name{x}},
		{"d", []api.Name{z, z, y}, []api.Name{z, y}}, {"e", []api.Name{x, y, z}, []api.Name{x, y, z}},
	} {
		if e := q.Wait(of(w.goal), w.vars...); e != api.OK {
			t.Error(e)
		}
		if on := q.On(of(w.goal).Name); !slices.Equal(on, w.on) {
			t.Errorf("On %s: %v, want %v", w.goal, on, w.on)
		}
	}
	tells(t, q, "", "a b c d e")
	if l := q.Vars(); !slices.Equal(l, []api.Name{x, y, z}) {
		t.Error(l)
	}
	for _, w := range []struct {
		vars           []api.Name
		woken, waiting string
		left           []api.Name
	}{
		{nil, "", "a b c d e", []api.Name{x, y, z}},
		{[]api.Name{name(0, 0)}, "", "a b c d e", []api.Name{x, y, z}},
		{[]api.Name{{}, name(-1, 0), name(math.MaxInt, math.MinInt)}, "", "a b c d e", []api.Name{x, y, z}},
		{[]api.Name{x}, "b c e", "a d", []api.Name{y, z}},
		{[]api.Name{y}, "b d e", "a c", []api.Name{x, z}},
		{[]api.Name{z}, "a d e", "b c", []api.Name{x, y}},
		{[]api.Name{z, x}, "a b c d e", "", nil},
		{[]api.Name{y, z}, "a b d e", "c", []api.Name{x}},
		{[]api.Name{z, y, z}, "a b d e", "c", []api.Name{x}},
		{[]api.Name{x, x, name(0, 99), x}, "b c e", "a d", []api.Name{y, z}},
		{[]api.Name{z, y, x}, "a b c d e", "", nil},
	} {
		k := q.Fork()
		k.Put(of("p"))
		if got := letters(k.Wake(w.vars...)); got != w.woken {
			t.Errorf("Wake %v: %s, want %s", w.vars, got, w.woken)
		}
		tells(t, k, strings.TrimSpace("p "+w.woken), w.waiting)
		if l := k.Vars(); !slices.Equal(l, w.left) {
			t.Errorf("Wake %v: Vars %v, want %v", w.vars, l, w.left)
		}
		if l := k.Wake(w.vars...); len(l) != 0 {
			t.Errorf("Wake %v again: %v", w.vars, l)
		}
		tells(t, k, strings.TrimSpace("p "+w.woken), w.waiting)
	}
	tells(t, q, "", "a b c d e")
	for _, on := range [][]api.Name{nil, {}} {
		if e := q.Wait(of("f"), on...); e != api.ErrNone {
			t.Error(e)
		}
	}
	tells(t, q, "", "a b c d e")
}

// TestWaitAgain: a goal that was woken may wait again: it is the last one then.
func TestWaitAgain(t *testing.T) {
	q := queue.New()
	q.Wait(of("a"), x)
	q.Wait(of("b"), x, y)
	q.Wake(x)
	g, _ := q.Next()
	q.Wait(of("c"), y)
	q.Wait(g, y)
	tells(t, q, "b", "c a")
	if got := letters(q.Wake(y)); got != "c a" {
		t.Error(got)
	}
	tells(t, q, "b c a", "")
}

// TestGoalsOfOneName: two goals may have one name; On is of the first one that waits.
func TestGoalsOfOneName(t *testing.T) {
	q := queue.New()
	n := name(2, 5)
	named := func(s string) api.Goal { return api.Goal{Name: n, Term: of(s).Term} }
	q.Put(named("a"), named("b"), named("a"))
	if !q.Has(n) || len(q.On(n)) != 0 {
		t.Error(q.Has(n), q.On(n))
	}
	q.Wait(named("c"), z, x)
	q.Wait(named("d"), y)
	q.Wait(named("e"), x)
	if on := q.On(n); !slices.Equal(on, []api.Name{z, x}) {
		t.Error(on)
	}
	if got := letters(q.Ready()) + ", " + letters(q.Waiting()); got != "a b a, c d e" {
		t.Error(got)
	}
	if got := letters(q.Wake(z)); got != "c" {
		t.Error(got)
	}
	if on := q.On(n); !slices.Equal(on, []api.Name{y}) {
		t.Error(on)
	}
	q.Wait(named("c"), z)
	q.Wake(y)
	if on := q.On(n); !slices.Equal(on, []api.Name{x}) {
		t.Error(on)
	}
	q.Wake(x, z)
	if got := letters(q.Ready()); got != "a b a c d e c" || len(q.On(n)) != 0 || !q.Has(n) {
		t.Error(got, q.On(n), q.Has(n))
	}
	for range 7 {
		if !q.Has(n) {
			t.Error("a goal is lost")
		}
		q.Next()
	}
	if q.Has(n) {
		t.Error("a goal is doubled")
	}
}

// TestWhateverGoalsAre: what a goal's term is, and which numbers names have, plays no part.
func TestWhateverGoalsAre(t *testing.T) {
	q := queue.New()
	terms := []api.Term{
		nil, {}, {{}}, {{Kind: 9, Text: "A B", N: math.MinInt, Var: name(-7, math.MaxInt)}}, {{Kind: api.Struct, Text: "f", N: 3}},
		slices.Repeat(api.Term{{Kind: api.Struct, Text: "f", N: 1}}, 1000), {{Kind: api.Int, N: math.MaxInt}}, {{Kind: api.Var}},
	}
	var goals []api.Goal
	var vars []api.Name
	for i, x := range terms {
		goals = append(goals, api.Goal{Name: name(math.MinInt+i, -i), Term: x})
		vars = append(vars, name(5-i, math.MaxInt-i), name(math.MinInt, i))
	}
	q.Put(goals...)
	for i, g := range goals {
		if e := q.Wait(g, vars[i:]...); e != api.OK {
			t.Error(e)
		}
		if on := q.On(g.Name); !slices.Equal(on, vars[i:]) {
			t.Error(on)
		}
	}
	rising := slices.Clone(vars)
	slices.SortFunc(rising, func(a, b api.Name) int {
		if term.Less(a, b) {
			return -1
		}
		return 1
	})
	if l := q.Vars(); !slices.Equal(l, rising) {
		t.Error(l)
	}
	same := func(a, b api.Goal) bool { return a.Name == b.Name && term.Equal(a.Term, b.Term) }
	if !slices.EqualFunc(q.Ready(), goals, same) || !slices.EqualFunc(q.Waiting(), goals, same) {
		t.Error(q.Ready(), q.Waiting())
	}
	if l := q.Wake(vars[2]); !slices.EqualFunc(l, goals[:3], same) {
		t.Error(l)
	}
	if l := q.Wake(vars...); !slices.EqualFunc(l, goals[3:], same) {
		t.Error(l)
	}
	for range 2 {
		for _, g := range goals {
			if got, ok := q.Next(); !ok || !same(got, g) {
				t.Error(got, ok)
			}
		}
	}
}

func TestNilQueue(t *testing.T) {
	var q *queue.Queue
	for _, e := range []api.Errno{q.Put(), q.Put(of("a")), q.Wait(of("a")), q.Wait(of("a"), x), q.Wait(api.Goal{})} {
		if e != api.ErrNil {
			t.Error(e)
		}
	}
	if g, ok := q.Next(); ok || len(g.Term) > 0 || (g.Name != api.Name{}) {
		t.Error(g, ok)
	}
	if g, ok := q.Peek(); ok || len(g.Term) > 0 || (g.Name != api.Name{}) {
		t.Error(g, ok)
	}
	n, m := q.Len()
	if len(q.Wake(x))+len(q.Wake())+len(q.Ready())+len(q.Waiting())+len(q.On(x))+len(q.Vars())+n+m != 0 || q.Has(x) || q.Fork() != nil {
		t.Error("a nil queue tells something")
	}
}

// TestManyWait: rows of many goals, woken from the front, from the end, and from the midst.
func TestManyWait(t *testing.T) {
	const many = 3000
	own := func(i int) api.Name { return name(2, i) }
	for what, order := range map[string]func(i int) int{
		"front": func(i int) int { return i },
		"end":   func(i int) int { return many - 1 - i },
		"midst": func(i int) int { return (i*7 + many/2) % many },
	} {
		q := queue.New()
		for i := range many {
			q.Wait(api.Goal{Name: name(0, i)}, x, own(i), y)
		}
		for i := range many - 10 {
			if l := q.Wake(own(order(i))); len(l) != 1 || l[0].Name != name(0, order(i)) {
				t.Fatal(what, i, len(l))
			}
		}
		if n, m := q.Len(); n != many-10 || m != 10 || len(q.Vars()) != 12 {
			t.Fatal(what, n, m, len(q.Vars()))
		}
		var last []int
		for i := many - 10; i < many; i++ {
			last = append(last, order(i))
		}
		slices.Sort(last)
		for i, g := range q.Fork().Wake(y) {
			if g.Name != name(0, last[i]) {
				t.Fatal(what, g, last)
			}
		}
		if l := q.Wake(x); len(l) != 10 || len(q.Vars()) != 0 {
			t.Fatal(what, strconv.Itoa(len(l)), q.Vars())
		}
	}
}
