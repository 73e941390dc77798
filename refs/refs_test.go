package refs_test

import (
	"math"
	"slices"
	"testing"

	"purlin/api"
	"purlin/refs"
	"purlin/term"
)

// The calls have the forms that chapter 16 lists.
var (
	_ func(node, nodes int) (*refs.Table, api.Errno)             = refs.New
	_ func(*refs.Table, int, ...api.Name) api.Errno              = (*refs.Table).Sent
	_ func(*refs.Table, api.Name, int) api.Errno                 = (*refs.Table).Added
	_ func(t *refs.Table, v api.Name, from, times int) api.Errno = (*refs.Table).Released
	_ func(*refs.Table, ...api.Name) api.Errno                   = (*refs.Table).Got
	_ func(*refs.Table, api.Name) int                            = (*refs.Table).Free
	_ func(t, before *refs.Table) bool                           = (*refs.Table).Fits
	_ func(*refs.Table, api.Name) bool                           = (*refs.Table).Exported
	_ func(*refs.Table, api.Name) int                            = (*refs.Table).Held
	_ func(*refs.Table) []refs.Count                             = (*refs.Table).Exports
	_ func(*refs.Table) []refs.Count                             = (*refs.Table).Imports
	_ func(*refs.Table) (exported, imported int)                 = (*refs.Table).Len
	_ func(*refs.Table) *refs.Table                              = (*refs.Table).Fork
	_ interface {
		Sent(to int, vars ...api.Name) api.Errno
	} = (*refs.Table)(nil)
	_ interface {
		Got(vars ...api.Name) api.Errno
	} = (*refs.Table)(nil)
	_ interface {
		Released(v api.Name, from, times int) api.Errno
	} = (*refs.Table)(nil)
	_ = refs.Count{Var: api.Name{}, Node: 0, Times: 0}
)

func name(node, number int) api.Name { return api.Name{Node: node, Number: number} }

// noNodes are numbers that are no node's, of however many.
var noNodes = []int{math.MinInt, -1 << 32, -2, -1, api.MaxNodes, api.MaxNodes + 1, 1 << 32, math.MaxInt}

func made(t *testing.T, node, nodes int) *refs.Table {
	t.Helper()
	r, e := refs.New(node, nodes)
	if e != api.OK || r == nil {
		t.Fatal(node, nodes, e)
	}
	return r
}

func is(t *testing.T, got, want api.Errno) {
	t.Helper()
	if got != want {
		t.Errorf("%v, want %v", got, want)
	}
}

// count is one with the Node and the Number of its variable, its Node, and its Times.
func count(owner, number, node, times int) refs.Count {
	return refs.Count{Var: name(owner, number), Node: node, Times: times}
}

// variables is how many there are in counts.
func variables(l []refs.Count) int {
	met := map[api.Name]int{}
	for _, c := range l {
		met[c.Var]++
	}
	return len(met)
}

// exports holds all that is told of exports against counts, in order.
func exports(t *testing.T, r *refs.Table, want ...refs.Count) {
	t.Helper()
	if got := r.Exports(); !slices.Equal(got, want) {
		t.Errorf("Exports: %v, want %v", got, want)
	}
	if n, _ := r.Len(); n != variables(want) {
		t.Errorf("Len: %d exported, of %v", n, want)
	}
	for _, c := range want {
		if !r.Exported(c.Var) {
			t.Errorf("%v is not exported, in spite of %v", c.Var, c)
		}
	}
}

func imports(t *testing.T, r *refs.Table, want ...refs.Count) {
	t.Helper()
	if got := r.Imports(); !slices.Equal(got, want) {
		t.Errorf("Imports: %v, want %v", got, want)
	}
	if _, n := r.Len(); n != variables(want) {
		t.Errorf("Len: %d held, of %v", n, want)
	}
	for _, c := range want {
		if r.Held(c.Var) != c.Times {
			t.Errorf("Held(%v): %d, in spite of %v", c.Var, r.Held(c.Var), c)
		}
	}
}

func TestExamples(t *testing.T) {
	x, y := name(0, 1), name(0, 2)
	r := made(t, 0, 3)
	is(t, r.Sent(1, x, x, y), api.OK)
	exports(t, r, count(0, 1, 1, 2), count(0, 2, 1, 1))
	is(t, r.Released(x, 1, 2), api.OK)
	exports(t, r, count(0, 2, 1, 1))
	if r.Exported(x) || !r.Exported(y) {
		t.Error(r.Exports())
	}
	r = made(t, 0, 3)
	is(t, r.Released(x, 2, 1), api.OK)
	exports(t, r, count(0, 1, 2, -1))
	is(t, r.Added(x, 2), api.OK)
	exports(t, r)
	if r.Exported(x) {
		t.Error("a count of 0 is none")
	}
}

func TestNew(t *testing.T) {
	none := func(node, nodes int) {
		t.Helper()
		if r, e := refs.New(node, nodes); e != api.ErrRange || r != nil {
			t.Errorf("New(%d, %d): %v, %v", node, nodes, r, e)
		}
	}
	for _, nodes := range []int{math.MinInt, -1, 0, api.MaxNodes + 1, 100, math.MaxInt} {
		for _, node := range []int{math.MinInt, -1, 0, 1, nodes - 1, nodes, math.MaxInt} {
			none(node, nodes)
		}
	}
	for nodes := 1; nodes <= api.MaxNodes; nodes++ {
		for _, node := range []int{math.MinInt, -1, nodes, nodes + 1, math.MaxInt} {
			none(node, nodes)
		}
		for node := range nodes {
			r := made(t, node, nodes)
			exports(t, r)
			imports(t, r)
			knows(t, r, node, nodes)
		}
	}
}

// knows holds which node of how many a table takes for its own, and for others.
func knows(t *testing.T, r *refs.Table, node, nodes int) {
	t.Helper()
	for _, k := range append(slices.Clone(noNodes), 0, 1, 2, 3) {
		isNode := k >= 0 && k < nodes
		other, any, known := api.ErrRange, api.ErrRange, api.ErrNone
		if isNode {
			any, known = api.OK, api.OK
		}
		if isNode && k != node {
			other = api.OK
		}
		f := r.Fork()
		is(t, f.Sent(k), other)
		is(t, f.Sent(k, name(node, 1)), other)
		is(t, f.Released(name(node, 1), k, 1), other)
		is(t, f.Added(name(node, 1), k), any)
		is(t, f.Got(name(k, 1)), known)
	}
}

func TestSent(t *testing.T) {
	r := made(t, 1, 4)
	a, b := name(1, 0), name(1, 7)
	is(t, r.Sent(0), api.OK)
	is(t, r.Sent(3, nil...), api.OK)
	exports(t, r)
	is(t, r.Sent(3, b), api.OK)
	is(t, r.Sent(0, b, a, b, b), api.OK)
	is(t, r.Sent(2, a), api.OK)
	is(t, r.Sent(2, a, a), api.OK)
	want := []refs.Count{count(1, 0, 0, 1), count(1, 0, 2, 3), count(1, 7, 0, 3), count(1, 7, 3, 1)}
	exports(t, r, want...)
	for _, k := range append(slices.Clone(noNodes), 1) {
		for _, l := range [][]api.Name{nil, {a}, {a, b}, {name(0, 1)}, {a, name(-1, 0)}} { // of the last two both errors apply
			is(t, r.Sent(k, l...), api.ErrRange)
		}
	}
	for _, k := range append(slices.Clone(noNodes), 0, 2, 3) {
		for _, l := range [][]api.Name{{name(k, 0)}, {name(k, 0), a, b}, {a, name(k, 0), b}, {a, b, name(k, 7)}} {
			is(t, r.Sent(0, l...), api.ErrNone)
			is(t, r.Sent(3, l...), api.ErrNone)
		}
	}
	exports(t, r, want...)
	imports(t, r)
}

func TestAdded(t *testing.T) {
	r := made(t, 2, 4)
	a := name(2, 5)
	is(t, r.Added(a, 0), api.OK)
	is(t, r.Added(a, 3), api.OK)
	is(t, r.Added(a, 0), api.OK)
	is(t, r.Added(name(2, 4), 1), api.OK)
	want := []refs.Count{count(2, 4, 1, 1), count(2, 5, 0, 2), count(2, 5, 3, 1)}
	exports(t, r, want...)
	is(t, r.Added(a, 2), api.OK) // what this node holds of its own is not counted
	is(t, r.Added(name(2, 6), 2), api.OK)
	if r.Exported(name(2, 6)) {
		t.Error(r.Exports())
	}
	for _, k := range noNodes {
		is(t, r.Added(a, k), api.ErrRange)
		is(t, r.Added(name(0, 5), k), api.ErrRange)
		is(t, r.Added(name(k, 5), k), api.ErrRange)
	}
	for _, k := range append(slices.Clone(noNodes), 0, 1, 3) {
		is(t, r.Added(name(k, 5), 0), api.ErrNone)
		is(t, r.Added(name(k, 5), 2), api.ErrNone)
		is(t, r.Added(name(k, 5), 3), api.ErrNone)
	}
	exports(t, r, want...)
	imports(t, r)
}

func TestReleased(t *testing.T) {
	const most = 1<<31 - 1
	r := made(t, 0, 3)
	a := name(0, 3)
	is(t, r.Sent(1, a, a, a), api.OK)
	is(t, r.Sent(2, a), api.OK)
	is(t, r.Released(a, 1, 1), api.OK)
	exports(t, r, count(0, 3, 1, 2), count(0, 3, 2, 1))
	is(t, r.Released(a, 1, 2), api.OK)
	exports(t, r, count(0, 3, 2, 1))
	is(t, r.Released(a, 2, 4), api.OK) // more than were sent
	exports(t, r, count(0, 3, 2, -3))
	is(t, r.Released(a, 1, most), api.OK)
	want := []refs.Count{count(0, 3, 1, -most), count(0, 3, 2, -3)}
	exports(t, r, want...)
	for _, times := range []int{math.MinInt, -most - 1, -1, 0, most + 1, 1 << 32, math.MaxInt} {
		is(t, r.Released(a, 1, times), api.ErrRange)
		is(t, r.Released(name(1, 3), 1, times), api.ErrRange)
	}
	for _, k := range append(slices.Clone(noNodes), 0, 3) {
		is(t, r.Released(a, k, 1), api.ErrRange)
		is(t, r.Released(a, k, 0), api.ErrRange)
		is(t, r.Released(name(1, 3), k, 1), api.ErrRange)
	}
	for _, k := range append(slices.Clone(noNodes), 1, 2, 3) {
		is(t, r.Released(name(k, 3), 1, 1), api.ErrNone)
		is(t, r.Released(name(k, 3), 2, most), api.ErrNone)
	}
	exports(t, r, want...)
	for range 5 {
		is(t, r.Released(a, 1, most), api.OK)
	}
	exports(t, r, count(0, 3, 1, -6*most), count(0, 3, 2, -3))
	imports(t, r)
}

// TestCountsPassZero: up from below, down from above, and there again.
func TestCountsPassZero(t *testing.T) {
	r := made(t, 0, 2)
	a, now := name(0, 9), 0
	look := func() {
		t.Helper()
		if now == 0 {
			exports(t, r)
		} else {
			exports(t, r, count(0, 9, 1, now))
		}
		if r.Exported(a) != (now != 0) {
			t.Errorf("Exported: %v at %d", r.Exported(a), now)
		}
	}
	for _, step := range []int{-2, 1, 1, 1, 1, -3, -1, 4, -2, 2, -2, 1, -1, 1} {
		for range max(step, 0) {
			is(t, r.Added(a, 1), api.OK)
			now++
			look()
		}
		if step < 0 {
			is(t, r.Released(a, 1, -step), api.OK)
			now += step
			look()
		}
	}
	is(t, r.Released(a, 1, now+2), api.OK)
	is(t, r.Sent(1, a, a, a), api.OK) // past 0 within one call
	exports(t, r, count(0, 9, 1, 1))
}

func TestGot(t *testing.T) {
	r := made(t, 1, 3)
	a, b, own := name(0, 4), name(2, 0), name(1, 4)
	is(t, r.Got(), api.OK)
	is(t, r.Got(nil...), api.OK)
	is(t, r.Got(own), api.OK)
	is(t, r.Got(own, own), api.OK)
	imports(t, r)
	is(t, r.Got(b, own, a, b), api.OK)
	is(t, r.Got(b), api.OK)
	want := []refs.Count{count(0, 4, 0, 1), count(2, 0, 2, 3)}
	imports(t, r, want...)
	if r.Held(own) != 0 || r.Held(name(0, 5)) != 0 {
		t.Error(r.Held(own), r.Held(name(0, 5)))
	}
	for _, k := range append(slices.Clone(noNodes), 3) {
		odd := name(k, 0)
		for _, l := range [][]api.Name{{odd}, {a, odd}, {odd, a}, {a, b, odd, own}, {own, odd}} {
			is(t, r.Got(l...), api.ErrNone)
		}
		if r.Held(odd) != 0 || r.Free(odd) != 0 {
			t.Error(odd, r.Held(odd))
		}
	}
	imports(t, r, want...)
	exports(t, r)
}

func frees(t *testing.T, r *refs.Table, v api.Name, want int) {
	t.Helper()
	if got := r.Held(v); got != want {
		t.Errorf("Held(%v): %d, want %d", v, got, want)
	}
	if got := r.Free(v); got != want {
		t.Errorf("Free(%v): %d, want %d", v, got, want)
	}
	if got := r.Held(v); got != 0 {
		t.Errorf("behind Free(%v): %d", v, got)
	}
}

func TestFree(t *testing.T) {
	r := made(t, 0, 4)
	a, b, c := name(1, 1), name(1, 2), name(3, 1)
	frees(t, r, a, 0)
	is(t, r.Got(a, b, c, b, b), api.OK)
	is(t, r.Sent(1, name(0, 1)), api.OK)
	frees(t, r, name(0, 1), 0) // its own, that others hold
	frees(t, r, name(1, 3), 0)
	imports(t, r, count(1, 1, 1, 1), count(1, 2, 1, 3), count(3, 1, 3, 1))
	frees(t, r, b, 3)
	frees(t, r, b, 0)
	imports(t, r, count(1, 1, 1, 1), count(3, 1, 3, 1))
	is(t, r.Got(b, b), api.OK) // it may come again
	frees(t, r, a, 1)
	imports(t, r, count(1, 2, 1, 2), count(3, 1, 3, 1))
	frees(t, r, c, 1)
	frees(t, r, b, 2)
	imports(t, r)
	exports(t, r, count(0, 1, 1, 1))
}

// withExports is a table of node 0 of which so many variables are exported, some of them to several nodes, some with a count below 0.
func withExports(t *testing.T, many int) *refs.Table {
	t.Helper()
	r := made(t, 0, 4)
	for n := range many {
		v := name(0, n)
		switch n % 3 {
		case 0:
			is(t, r.Sent(1, v, v), api.OK)
			is(t, r.Sent(2, v), api.OK)
			is(t, r.Released(v, 3, 5), api.OK)
		case 1:
			is(t, r.Released(v, 1, 1), api.OK)
		case 2:
			is(t, r.Added(v, 3), api.OK)
		}
	}
	is(t, r.Sent(1, name(0, many)), api.OK) // this one has none any more
	is(t, r.Released(name(0, many), 1, 1), api.OK)
	for n := range 100 { // imports play no part
		is(t, r.Got(name(2, n)), api.OK)
	}
	return r
}

func TestFits(t *testing.T) {
	const most = api.MaxExports
	sizes := []int{0, 1, most - 1, most, most + 1, most + 2, 2 * most}
	for _, now := range sizes {
		r := withExports(t, now)
		if got := r.Fits(nil); got != (now <= most) {
			t.Errorf("Fits(nil) of %d: %v", now, got)
		}
		for _, then := range sizes {
			before := withExports(t, then)
			if got := r.Fits(before); got != (now <= most || now <= then) {
				t.Errorf("Fits of %d, before %d: %v", now, then, got)
			}
			if n, _ := before.Len(); n != then {
				t.Errorf("Fits changes %d to %d", then, n)
			}
		}
		if !r.Fits(r) || !r.Fits(r.Fork()) {
			t.Errorf("%d are not more than before", now)
		}
		if n, m := r.Len(); n != now || m != 100 {
			t.Error(n, m)
		}
	}
	var none *refs.Table
	if none.Fits(nil) || none.Fits(withExports(t, 0)) || none.Fits(withExports(t, most+1)) {
		t.Error("a nil table answers true")
	}
}

// TestOtherSizesFit: of how many nodes the table before is, and of which, plays no part.
func TestOtherSizesFit(t *testing.T) {
	before := made(t, 1, 2)
	for n := range api.MaxExports + 1 {
		is(t, before.Sent(0, name(1, n)), api.OK)
	}
	if !withExports(t, api.MaxExports+1).Fits(before) || withExports(t, api.MaxExports+2).Fits(before) {
		t.Error("Fits")
	}
}

func TestExported(t *testing.T) {
	r := made(t, 1, 4)
	is(t, r.Got(name(0, 1), name(2, 1)), api.OK)
	for _, k := range append(slices.Clone(noNodes), 0, 1, 2, 3) {
		if r.Exported(name(k, 1)) {
			t.Error(k)
		}
	}
	for _, to := range []int{0, 2, 3} {
		is(t, r.Sent(to, name(1, to)), api.OK)
		for n := range 5 {
			if r.Exported(name(1, n)) != (n == to) || r.Exported(name(0, n)) || r.Exported(name(2, n)) {
				t.Error(to, n, r.Exports())
			}
		}
		is(t, r.Released(name(1, to), to, 1), api.OK)
	}
	// Two counts whose sum is 0 are counts all the same.
	is(t, r.Sent(0, name(1, 9)), api.OK)
	is(t, r.Released(name(1, 9), 2, 1), api.OK)
	exports(t, r, count(1, 9, 0, 1), count(1, 9, 2, -1))
}

// TestOrder: counts rise by variables, then by nodes, however they came, and whatever numbers variables have.
func TestOrder(t *testing.T) {
	numbers := []int{math.MinInt, -1, 0, 1, 2, 3, 10, 1 << 31, math.MaxInt}
	for _, step := range []int{1, 2, 4, 5, 7, 8} {
		r := made(t, 2, 4)
		var out, in []refs.Count
		for i := range numbers {
			n := numbers[i*step%len(numbers)]
			is(t, r.Sent(3, name(2, n)), api.OK)
			is(t, r.Added(name(2, n), 0), api.OK)
			is(t, r.Released(name(2, n), 1, 2), api.OK)
			is(t, r.Got(name(3, n), name(0, n), name(1, n), name(0, n)), api.OK)
		}
		for _, n := range numbers {
			out = append(out, count(2, n, 0, 1), count(2, n, 1, -2), count(2, n, 3, 1))
		}
		for _, node := range []int{0, 1, 3} {
			for _, n := range numbers {
				in = append(in, count(node, n, node, 1))
				if node == 0 {
					in[len(in)-1].Times = 2
				}
			}
		}
		for range 5 {
			exports(t, r, out...)
			imports(t, r, in...)
		}
		for i := range in[1:] {
			if !term.Less(in[i].Var, in[i+1].Var) {
				t.Error(in[i], in[i+1])
			}
		}
	}
}

func TestOneNodeAlone(t *testing.T) {
	r := made(t, 0, 1)
	a := name(0, 1)
	for k := -1; k <= api.MaxNodes; k++ {
		is(t, r.Sent(k, a), api.ErrRange)
		is(t, r.Released(a, k, 1), api.ErrRange)
	}
	is(t, r.Added(a, 0), api.OK)
	is(t, r.Added(a, 1), api.ErrRange)
	is(t, r.Got(a), api.OK)
	is(t, r.Got(name(1, 1)), api.ErrNone)
	exports(t, r)
	imports(t, r)
}

func TestNil(t *testing.T) {
	var r *refs.Table
	for _, k := range append(slices.Clone(noNodes), 0, 1, 2, 3) {
		v := name(k, k)
		is(t, r.Sent(k), api.ErrNil)
		is(t, r.Sent(k, v, v), api.ErrNil)
		is(t, r.Added(v, k), api.ErrNil)
		is(t, r.Released(v, k, k), api.ErrNil)
		is(t, r.Got(v), api.ErrNil)
		frees(t, r, v, 0)
		if r.Exported(v) {
			t.Error(v)
		}
	}
	is(t, r.Got(), api.ErrNil)
	exports(t, r)
	imports(t, r)
	if r.Fork() != nil {
		t.Error(r.Fork())
	}
}

func TestFork(t *testing.T) {
	a, b, c := name(1, 1), name(1, 2), name(0, 3)
	r := made(t, 1, 3)
	is(t, r.Sent(2, a, a), api.OK)
	is(t, r.Got(c, c), api.OK)
	f := r.Fork()
	exports(t, f, count(1, 1, 2, 2))
	imports(t, f, count(0, 3, 0, 2))
	knows(t, f, 1, 3)
	is(t, f.Released(a, 2, 2), api.OK)
	is(t, r.Sent(0, b), api.OK)
	is(t, f.Got(name(2, 0)), api.OK)
	frees(t, r, c, 2)
	exports(t, f)
	imports(t, f, count(0, 3, 0, 2), count(2, 0, 2, 1))
	exports(t, r, count(1, 1, 2, 2), count(1, 2, 0, 1))
	imports(t, r)
	empty := made(t, 0, 2).Fork()
	is(t, empty.Sent(1, name(0, 0)), api.OK)
	is(t, empty.Got(name(1, 0)), api.OK)
	exports(t, empty, count(0, 0, 1, 1))
	imports(t, empty, count(1, 0, 1, 1))
}
