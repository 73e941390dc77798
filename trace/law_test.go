package trace_test

import (
	"fmt"
	"math/rand"
	"slices"
	"testing"

	"purlin/api"
	"purlin/model"
	"purlin/trace"
)

// slowCheck is Check by the chapter's words.
func slowCheck(p api.Program, nodes int, submitted []api.Goal, l []api.Commit) (*model.Model, api.Errno, int) {
	m, e := model.New(p, nodes)
	for i := 0; e == api.OK && i < len(submitted); i++ {
		e = m.Submit(submitted[i])
	}
	if e != api.OK {
		return nil, e, 0
	}
	for i := range l {
		if e = m.Take(l[i]); e != api.OK {
			return nil, e, i
		}
	}
	return m, e, len(l)
}

// slowMerge is Merge by the chapter's words: a row gives its next commit, if what was merged is a run with it, too.
func slowMerge(p api.Program, nodes int, submitted []api.Goal, rows [][]api.Commit) (merged []api.Commit, e api.Errno) {
	if _, e, _ := slowCheck(p, nodes, submitted, nil); e != api.OK {
		return nil, e
	}
	rows = slices.Clone(rows)
	for {
		first := slices.IndexFunc(rows, func(row []api.Commit) bool {
			if len(row) == 0 {
				return false
			}
			_, e, _ := slowCheck(p, nodes, submitted, append(slices.Clone(merged), row[0]))
			return e == api.OK
		})
		if first < 0 {
			break
		}
		merged, rows[first] = append(merged, rows[first][0]), rows[first][1:]
	}
	if len(slices.Concat(rows...)) > 0 {
		return nil, api.ErrTrace
	}
	return merged, api.OK
}

// bend makes a run another row of commits, by chance.
func bend(r *rand.Rand, l []api.Commit) []api.Commit {
	l = slices.Clone(l)
	if len(l) < 2 {
		return l
	}
	i, j := r.Intn(len(l)), r.Intn(len(l))
	switch r.Intn(8) {
	case 0:
		l[i], l[j] = l[j], l[i]
	case 1:
		l = slices.Delete(l, i, i+1)
	case 2:
		l = slices.Insert(l, i, l[j])
	case 3:
		l[i].Clause = r.Intn(4) - 1
	case 4:
		l[i].Node = r.Intn(5) - 1
	case 5:
		l[i].Fails = !l[i].Fails
	case 6:
		l[i].Goals, l[i].Fresh = l[j].Goals, l[j].Fresh
	case 7:
		l[i].Bound = l[j].Bound
	}
	return l
}

// deal lays commits in rows by chance, each in its order.
func deal(r *rand.Rand, l []api.Commit) [][]api.Commit {
	rows := make([][]api.Commit, 1+r.Intn(5))
	for _, c := range l {
		i := r.Intn(len(rows))
		rows[i] = append(rows[i], c)
	}
	return rows
}

// TestAgainstTheWords: Check, After, Merge, Rows, Owners and Twice of runs, bent or not, are what the chapter's words say.
func TestAgainstTheWords(t *testing.T) {
	p := programOf(t, lawProgram)
	told := map[string]int{}
	for seed := range 250 {
		r := rand.New(rand.NewSource(int64(seed)))
		submitted, l := someRun(t, r, p)
		for range r.Intn(3) {
			l = bend(r, l)
		}
		nodes := 3
		if r.Intn(10) == 0 {
			nodes = r.Intn(7) - 1
		}
		if r.Intn(15) == 0 && len(submitted) > 0 {
			submitted = append(submitted, submitted[0])
		}
		m, want, at := slowCheck(p, nodes, submitted, l)
		e, n := trace.Check(p, nodes, submitted, l...)
		if e != want || n != at {
			t.Fatalf("seed %d: Check: %v, %d; want %v, %d", seed, e, n, want, at)
		}
		told[fmt.Sprint("check ", e)]++
		after, e := trace.After(p, nodes, submitted, l...)
		if e != want || state(after) != state(m) {
			t.Fatalf("seed %d: After: %v, %s; want %v, %s", seed, e, state(after), want, state(m))
		}
		for _, rows := range [][][]api.Commit{{l}, trace.Rows(3, l...), deal(r, l)} {
			merged, e := trace.Merge(p, nodes, submitted, rows...)
			wantMerged, want := slowMerge(p, nodes, submitted, rows)
			if e != want || !same(merged, wantMerged) {
				t.Fatalf("seed %d: Merge: %v, %v; want %v, %v", seed, merged, e, wantMerged, want)
			}
			told[fmt.Sprint("merge ", e)]++
		}
		slowOwners(t, l)
		slowTwice(t, l, told)
	}
	for _, what := range []string{"check 0", "check 2", "check 6", "check 90", "check 220", "merge 0", "merge 2", "merge 6", "merge 220", "goal", "variable", "nothing"} {
		if told[what] < 5 {
			t.Errorf("%s: %d times alone", what, told[what])
		}
	}
}

func slowOwners(t *testing.T, l []api.Commit) {
	t.Helper()
	var want []api.Name
	for _, c := range l {
		for _, b := range c.Bound {
			if b.Var.Node != c.Node {
				want = append(want, b.Var)
			}
		}
	}
	if v, foreign := trace.Owners(l...); foreign != (len(want) > 0) || foreign && v != want[0] || !foreign && v != (api.Name{}) {
		t.Fatalf("Owners: %v, %v; want one of %v", v, foreign, want)
	}
}

func slowTwice(t *testing.T, l []api.Commit, told map[string]int) {
	t.Helper()
	var vars, goals, want []api.Name
	what := "nothing"
	for _, c := range l {
		for _, b := range c.Bound {
			if slices.Contains(vars, b.Var) {
				want, what = append(want, b.Var), "variable"
			}
			vars = append(vars, b.Var)
		}
	}
	for _, c := range l {
		if slices.Contains(goals, c.Goal.Name) {
			want = append(want, c.Goal.Name)
			if what == "nothing" {
				what = "goal"
			}
		}
		goals = append(goals, c.Goal.Name)
	}
	told[what]++
	if v, twice := trace.Twice(l...); twice != (len(want) > 0) || twice && v != want[0] || !twice && v != (api.Name{}) {
		t.Fatalf("Twice: %v, %v; want the first of %v", v, twice, want)
	}
}

// TestMergeOfRows is P22.5 (E1): in whichever order the rows are handed in.
func TestMergeOfRows(t *testing.T) {
	p := programOf(t, lawProgram)
	turned := 0
	for seed := range 150 {
		r := rand.New(rand.NewSource(int64(seed)))
		submitted, l := someRun(t, r, p)
		want := state(isRun(t, p, 3, submitted, l...))
		rows := trace.Rows(3, l...)
		for range 3 {
			r.Shuffle(len(rows), func(i, j int) { rows[i], rows[j] = rows[j], rows[i] })
			merged, e := trace.Merge(p, 3, submitted, rows...)
			if e != api.OK || len(merged) != len(l) {
				t.Fatalf("seed %d: %v, %d of %d", seed, e, len(merged), len(l))
			}
			if got := state(isRun(t, p, 3, submitted, merged...)); got != want {
				t.Fatalf("seed %d: %s; want %s", seed, got, want)
			}
			if !same(sorted(merged), sorted(l)) {
				t.Fatalf("seed %d: other commits", seed)
			}
			if !same(merged, l) {
				turned++
			}
		}
	}
	if turned < 100 {
		t.Errorf("merged in another order: %d times alone", turned)
	}
}

func sorted(l []api.Commit) []api.Commit {
	l = slices.Clone(l)
	slices.SortFunc(l, func(a, b api.Commit) int {
		if a.Goal.Name.Node != b.Goal.Name.Node {
			return a.Goal.Name.Node - b.Goal.Name.Node
		}
		return a.Goal.Name.Number - b.Goal.Name.Number
	})
	return l
}

// TestCutRuns is P22.6.
func TestCutRuns(t *testing.T) {
	p := programOf(t, lawProgram)
	for seed := range 60 {
		submitted, l := someRun(t, rand.New(rand.NewSource(int64(seed))), p)
		for n := range len(l) + 1 {
			isRun(t, p, 3, submitted, l[:n]...)
		}
		if v, twice := trace.Twice(l...); twice {
			t.Errorf("seed %d: %v twice", seed, v)
		}
		if v, foreign := trace.Owners(l...); foreign {
			t.Errorf("seed %d: %v bound by another node", seed, v)
		}
	}
}

// TestTurnedPairs is P22.7.
func TestTurnedPairs(t *testing.T) {
	p := programOf(t, lawProgram)
	turned, not := 0, 0
	for seed := range 60 {
		submitted, l := someRun(t, rand.New(rand.NewSource(int64(seed))), p)
		for i := 1; i < len(l); i++ {
			other := append(slices.Clone(l[:i-1]), l[i])
			if e, _ := trace.Check(p, 3, submitted, other...); e != api.OK {
				not++
				continue
			}
			turned++
			m := isRun(t, p, 3, submitted, append(other, l[i-1])...)
			if got, want := state(m), state(isRun(t, p, 3, submitted, l[:i+1]...)); got != want {
				t.Fatalf("seed %d, %d: %s; want %s", seed, i, got, want)
			}
		}
	}
	if turned < 100 || not < 100 {
		t.Errorf("%d pairs could be turned, %d could not", turned, not)
	}
}

// scramble overwrites commits, down to their last lists.
func scramble(l []api.Commit) {
	for _, c := range l {
		clear(c.Goal.Term[:cap(c.Goal.Term)])
		for _, b := range c.Bound {
			clear(b.Term[:cap(b.Term)])
		}
		for _, g := range c.Goals {
			clear(g.Term[:cap(g.Term)])
		}
		clear(c.Fresh[:cap(c.Fresh)])
		clear(c.Bound[:cap(c.Bound)])
		clear(c.Goals[:cap(c.Goals)])
	}
	clear(l[:cap(l)])
}

// spare is a list with room behind its end, in which something stands.
func spare[T any](l []T, behind T) []T { return append(slices.Clone(l), behind, behind)[:len(l)] }

func deep(l []api.Commit) []api.Commit {
	l = slices.Clone(l)
	for i, c := range l {
		l[i].Goal.Term, l[i].Fresh = spare(c.Goal.Term, api.Cell{N: 77}), spare(c.Fresh, name(7, 7))
		l[i].Bound, l[i].Goals = spare(c.Bound, api.Binding{Var: name(7, 7)}), spare(c.Goals, api.Goal{Name: name(7, 7)})
		for j, b := range c.Bound {
			l[i].Bound[j].Term = spare(b.Term, api.Cell{N: 77})
		}
		for j, g := range c.Goals {
			l[i].Goals[j].Term = spare(g.Term, api.Cell{N: 77})
		}
	}
	return spare(l, api.Commit{Node: 77})
}

// behind is all of a list, and what stands in its room behind the end.
func behind(l []api.Commit) string {
	text := ""
	for _, c := range l[:cap(l)] {
		text += fmt.Sprint(c.Node, c.Goal.Name, c.Goal.Term[:cap(c.Goal.Term)], c.Fails, c.Clause, c.Fresh[:cap(c.Fresh)], len(c.Bound), len(c.Goals))
		for _, b := range c.Bound[:cap(c.Bound)] {
			text += fmt.Sprint(b.Var, b.Term[:cap(b.Term)])
		}
		for _, g := range c.Goals[:cap(c.Goals)] {
			text += fmt.Sprint(g.Name, g.Term[:cap(g.Term)])
		}
	}
	return text
}

// TestWhatIsHandedInStays is P3: it is not changed, and not kept; what is answered is the caller's.
func TestWhatIsHandedInStays(t *testing.T) {
	for seed := range 25 {
		p := programOf(t, lawProgram)
		submitted, l := someRun(t, rand.New(rand.NewSource(int64(seed))), p)
		handed := deep(l)
		goals := spare(submitted, api.Goal{Name: name(7, 7)})
		for i, g := range goals {
			goals[i].Term = slices.Clone(g.Term)
		}
		was, wasGoals := behind(handed), fmt.Sprint(goals[:cap(goals)])
		m := isRun(t, p, 3, goals, handed...)
		rows := trace.Rows(3, handed...)
		merged, e := trace.Merge(p, 3, goals, handed)
		if e != api.OK {
			t.Fatal(e)
		}
		trace.Owners(handed...)
		trace.Twice(handed...)
		for _, c := range handed {
			trace.Print(c)
		}
		if behind(handed) != was || fmt.Sprint(goals[:cap(goals)]) != wasGoals {
			t.Fatal("what was handed in has changed")
		}
		want, wantRows, wantMerged := state(m), fmt.Sprint(rows), fmt.Sprint(merged)
		scramble(handed)
		for _, g := range goals {
			clear(g.Term)
		}
		if state(m) != want || fmt.Sprint(rows) != wantRows || fmt.Sprint(merged) != wantMerged {
			t.Fatal("what was handed in is kept")
		}
		scramble(merged)
		for _, row := range rows {
			scramble(row)
		}
		if state(m) != want {
			t.Fatal("what was answered is kept")
		}
		again := isRun(t, p, 3, submitted, l...)
		m.Submit(api.Goal{Name: name(0, 39), Term: termOf(t, "p(2)")})
		if state(again) != want {
			t.Fatal("another machine behind the same run")
		}
	}
}

// TestMergedListsStandAlone: no two lists of an answer share memory, though the same commit was handed in twice.
func TestMergedListsStandAlone(t *testing.T) {
	_, _, l := ofExample(t)
	rows := trace.Rows(2, l[2], l[2])
	if len(rows[1]) != 2 {
		t.Fatal(rows)
	}
	want := commitText(rows[1][1])
	scramble(rows[1][:1:1])
	if commitText(rows[1][1]) != want {
		t.Error("both are one")
	}
}
