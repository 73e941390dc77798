package owner_test

import (
	"math"
	"slices"
	"testing"

	"purlin/api"
	"purlin/owner"
	"purlin/term"
)

// The calls have the forms that chapter 15 lists.
var (
	_ func() *owner.Table                      = owner.New
	_ func(*owner.Table, api.Name, int) bool   = (*owner.Table).Ask
	_ func(*owner.Table, api.Name) []int       = (*owner.Table).Tell
	_ func(*owner.Table, api.Name) []int       = (*owner.Table).Waiters
	_ func(*owner.Table, api.Name) bool        = (*owner.Table).Want
	_ func(*owner.Table, ...api.Name)          = (*owner.Table).Got
	_ func(*owner.Table) []api.Name            = (*owner.Table).Wanted
	_ func(*owner.Table) []api.Name            = (*owner.Table).Asked
	_ func(*owner.Table) *owner.Table          = (*owner.Table).Fork
	_ interface{ Ask(v api.Name, n int) bool } = (*owner.Table)(nil)
	_ interface{ Got(l ...api.Name) }          = (*owner.Table)(nil)
)

func name(node, number int) api.Name { return api.Name{Node: node, Number: number} }

var x, y, z = name(0, 4), name(0, 9), name(2, 1)

// odd are names of which some are no variable's, rising.
func odd() (l []api.Name) {
	numbers := []int{math.MinInt, -2, -1, 0, 1, 3, 4, 1 << 31, math.MaxInt}
	for _, node := range numbers {
		for _, n := range numbers {
			l = append(l, name(node, n))
		}
	}
	return l
}

func asks(t *testing.T, o *owner.Table, v api.Name, node int, want bool) {
	t.Helper()
	if got := o.Ask(v, node); got != want {
		t.Errorf("Ask(%v, %d): %v, want %v", v, node, got, want)
	}
}

// waits holds who waits for a variable, and whether it is asked for, against nodes in order.
func waits(t *testing.T, o *owner.Table, v api.Name, nodes ...int) {
	t.Helper()
	if got := o.Waiters(v); !slices.Equal(got, nodes) {
		t.Errorf("Waiters(%v): %v, want %v", v, got, nodes)
	}
	if slices.Contains(o.Asked(), v) != (len(nodes) > 0) {
		t.Errorf("%v: Asked %v, wait %v", v, o.Asked(), nodes)
	}
}

func tellsOf(t *testing.T, o *owner.Table, v api.Name, nodes ...int) {
	t.Helper()
	if got := o.Tell(v); !slices.Equal(got, nodes) {
		t.Errorf("Tell(%v): %v, want %v", v, got, nodes)
	}
	waits(t, o, v)
}

func wants(t *testing.T, o *owner.Table, v api.Name, want bool) {
	t.Helper()
	if got := o.Want(v); got != want {
		t.Errorf("Want(%v): %v, want %v", v, got, want)
	}
}

func lists(t *testing.T, o *owner.Table, wanted, asked []api.Name) {
	t.Helper()
	if got := o.Wanted(); !slices.Equal(got, wanted) {
		t.Errorf("Wanted: %v, want %v", got, wanted)
	}
	if got := o.Asked(); !slices.Equal(got, asked) {
		t.Errorf("Asked: %v, want %v", got, asked)
	}
}

func TestExample(t *testing.T) {
	o := owner.New()
	asks(t, o, x, 1, true)
	asks(t, o, x, 2, true)
	asks(t, o, x, 1, false)
	tellsOf(t, o, x, 1, 2)
	tellsOf(t, o, x)
}

func TestEmpty(t *testing.T) {
	o := owner.New()
	if o == nil {
		t.Fatal("New is nil")
	}
	lists(t, o, nil, nil)
	for _, v := range odd() {
		waits(t, o, v)
		tellsOf(t, o, v)
		o.Got(v)
	}
	o.Got()
	o.Got(odd()...)
	lists(t, o, nil, nil)
}

func TestAsk(t *testing.T) {
	o := owner.New()
	asks(t, o, x, 3, true)
	asks(t, o, x, 1, true)
	asks(t, o, y, 1, true) // who waits for one variable may wait for another one
	asks(t, o, x, 2, true)
	asks(t, o, y, 3, true)
	for _, node := range []int{1, 2, 3, 1} {
		asks(t, o, x, node, false)
	}
	asks(t, o, y, 1, false)
	asks(t, o, y, 3, false)
	waits(t, o, x, 3, 1, 2)
	waits(t, o, y, 1, 3)
	waits(t, o, z)
	lists(t, o, nil, []api.Name{x, y})
	tellsOf(t, o, z)
	tellsOf(t, o, x, 3, 1, 2)
	waits(t, o, y, 1, 3)
	lists(t, o, nil, []api.Name{y})
	// Behind a Tell the row begins anew.
	asks(t, o, x, 2, true)
	asks(t, o, x, 3, true)
	asks(t, o, x, 2, false)
	waits(t, o, x, 2, 3)
	tellsOf(t, o, x, 2, 3)
	tellsOf(t, o, y, 1, 3)
	lists(t, o, nil, nil)
}

// TestWaitersLeaveAllAsItIs: who asks who waits changes nothing.
func TestWaitersLeaveAllAsItIs(t *testing.T) {
	o := owner.New()
	asks(t, o, x, 0, true)
	for range 3 {
		waits(t, o, x, 0)
		waits(t, o, y)
		lists(t, o, nil, []api.Name{x})
	}
	asks(t, o, x, 0, false)
}

// TestAnyNumbersAsk: which numbers nodes have plays no part.
func TestAnyNumbersAsk(t *testing.T) {
	o := owner.New()
	nodes := []int{math.MaxInt, 0, -1, 7, math.MinInt, api.MaxNodes, 1 << 32}
	for _, v := range odd() {
		for _, k := range nodes {
			asks(t, o, v, k, true)
			asks(t, o, v, k, false)
		}
	}
	lists(t, o, nil, odd())
	for _, v := range odd() {
		waits(t, o, v, nodes...)
		tellsOf(t, o, v, nodes...)
	}
	lists(t, o, nil, nil)
}

func TestWant(t *testing.T) {
	o := owner.New()
	wants(t, o, z, true)
	wants(t, o, z, false)
	wants(t, o, x, true)
	wants(t, o, z, false)
	lists(t, o, []api.Name{x, z}, nil)
	o.Got(z)
	lists(t, o, []api.Name{x}, nil)
	wants(t, o, z, true) // behind Got it may be wanted again
	wants(t, o, x, false)
	o.Got()
	o.Got(nil...)
	o.Got(y, name(-1, 0), name(math.MinInt, math.MaxInt))
	lists(t, o, []api.Name{x, z}, nil)
	wants(t, o, y, true)
	o.Got(z, y, z, z)
	lists(t, o, []api.Name{x}, nil)
	o.Got(x, x)
	o.Got(x)
	lists(t, o, nil, nil)
	wants(t, o, x, true)
	wants(t, o, y, true)
	wants(t, o, z, true)
	o.Got(y, x, z)
	lists(t, o, nil, nil)
}

// TestWantedAndAskedAreApart: what a node has asked for, and who waits, do not touch.
func TestWantedAndAskedAreApart(t *testing.T) {
	o := owner.New()
	wants(t, o, x, true)
	asks(t, o, x, 1, true)
	asks(t, o, y, 1, true)
	wants(t, o, z, true)
	lists(t, o, []api.Name{x, z}, []api.Name{x, y})
	o.Got(x, y)
	lists(t, o, []api.Name{z}, []api.Name{x, y})
	wants(t, o, x, true)
	tellsOf(t, o, x, 1)
	tellsOf(t, o, z)
	lists(t, o, []api.Name{x, z}, []api.Name{y})
}

// TestOrder: names rise by their nodes, then by their numbers, however they came.
func TestOrder(t *testing.T) {
	l := odd()
	for i := range l[1:] {
		if !term.Less(l[i], l[i+1]) {
			t.Fatal(l[i], l[i+1])
		}
	}
	for _, step := range []int{1, 2, 5, 7, len(l) - 1} {
		o := owner.New()
		for i := range l {
			v := l[i*step%len(l)]
			wants(t, o, v, true)
			asks(t, o, v, i, true)
		}
		for range 5 {
			lists(t, o, l, l)
		}
		o.Got(l[3:9]...)
		tellsOf(t, o, l[0], 0)
		lists(t, o, slices.Concat(l[:3], l[9:]), l[1:])
	}
}

func TestNil(t *testing.T) {
	var o *owner.Table
	for _, v := range odd() {
		asks(t, o, v, 1, false)
		wants(t, o, v, false)
		waits(t, o, v)
		tellsOf(t, o, v)
		o.Got(v)
	}
	o.Got()
	o.Got(odd()...)
	lists(t, o, nil, nil)
	if f := o.Fork(); f != nil {
		t.Error(f)
	}
}

func TestFork(t *testing.T) {
	o := owner.New()
	asks(t, o, x, 1, true)
	asks(t, o, y, 2, true)
	wants(t, o, z, true)
	f := o.Fork()
	waits(t, f, x, 1)
	waits(t, f, y, 2)
	lists(t, f, []api.Name{z}, []api.Name{x, y})
	asks(t, f, x, 1, false)
	wants(t, f, z, false)
	asks(t, f, x, 3, true)
	asks(t, o, x, 2, true)
	tellsOf(t, f, y, 2)
	o.Got(z)
	wants(t, f, y, true)
	waits(t, o, x, 1, 2)
	waits(t, f, x, 1, 3)
	waits(t, o, y, 2)
	lists(t, o, nil, []api.Name{x, y})
	lists(t, f, []api.Name{y, z}, []api.Name{x})
	empty := owner.New().Fork()
	lists(t, empty, nil, nil)
	asks(t, empty, x, 0, true)
	wants(t, empty, x, true)
}

// TestForkedRows is P4 where rows would share their room: both ask behind those that wait already.
func TestForkedRows(t *testing.T) {
	for many := range 20 {
		o := owner.New()
		var row []int
		for k := range many {
			asks(t, o, x, k, true)
			row = append(row, k)
		}
		f, g := o.Fork(), o.Fork()
		asks(t, o, x, 100, true)
		asks(t, f, x, 200, true)
		asks(t, g, x, 300, true)
		waits(t, o, x, append(slices.Clone(row), 100)...)
		waits(t, f, x, append(slices.Clone(row), 200)...)
		waits(t, g, x, append(slices.Clone(row), 300)...)
		told := f.Tell(x)
		for i := range told[:cap(told)] {
			told[:cap(told)][i] = 999
		}
		waits(t, o, x, append(slices.Clone(row), 100)...)
		waits(t, g, x, append(slices.Clone(row), 300)...)
	}
}
