package queue

import (
	"cmp"
	"maps"
	"slices"

	"purlin/api"
	"purlin/order"
)

// sleeper is a goal that waits, with its number: they rise in the order in which goals began to wait.
type sleeper struct {
	number int
	goal   api.Goal
	vars   []api.Name
}

// waiting is the goals that wait, by their numbers, and for each variable for which one does the row of those.
type waiting struct {
	sleepers map[int]sleeper
	rows     map[api.Name]row
	begun    int
}

// row is numbers of goals, rising, of which so many are gone: they wait no more. To take out each at once would cost as much as the row is long.
type row struct {
	numbers []int
	gone    int
}

func noneWaiting() waiting {
	return waiting{sleepers: map[int]sleeper{}, rows: map[api.Name]row{}}
}

// wait puts a goal behind all that wait.
func (w *waiting) wait(g api.Goal, vars ...api.Name) {
	s := sleeper{number: w.begun, goal: g}
	w.begun++
	for _, v := range vars {
		r := w.rows[v]
		if n := len(r.numbers); n > 0 && r.numbers[n-1] == s.number {
			continue
		}
		r.numbers = append(r.numbers, s.number)
		w.rows[v] = r
		s.vars = append(s.vars, v)
	}
	w.sleepers[s.number] = s
}

// wake takes out the goals that wait for one of these variables at least, the one that waits longest first.
func (w *waiting) wake(vars ...api.Name) []api.Goal {
	var woken []sleeper
	for _, v := range vars {
		numbers := w.rows[v].numbers
		delete(w.rows, v)
		for _, number := range numbers {
			if s, asleep := w.sleepers[number]; asleep {
				woken = append(woken, s)
				w.rouse(s)
			}
		}
	}
	return goalsOf(woken)
}

// rouse takes out one goal.
func (w *waiting) rouse(s sleeper) {
	delete(w.sleepers, s.number)
	for _, v := range s.vars {
		if r, there := w.rows[v]; there {
			w.shorten(v, r)
		}
	}
}

// shorten counts one more of a variable's row as gone; a row that has none left is none.
func (w *waiting) shorten(v api.Name, r row) {
	r.gone++
	if r.gone == len(r.numbers) {
		delete(w.rows, v)
		return
	}
	if 2*r.gone > len(r.numbers) {
		r = row{numbers: slices.DeleteFunc(r.numbers, w.isGone)}
	}
	w.rows[v] = r
}

func (w *waiting) isGone(number int) bool {
	_, asleep := w.sleepers[number]
	return !asleep
}

func (w *waiting) asleep() int { return len(w.sleepers) }

// sleeping are the goals that wait, in order.
func (w *waiting) sleeping() []api.Goal {
	return goalsOf(slices.Collect(maps.Values(w.sleepers)))
}

// goalsOf are the goals of a list, which it brings in the order in which they began to wait.
func goalsOf(l []sleeper) []api.Goal {
	slices.SortFunc(l, func(a, b sleeper) int { return cmp.Compare(a.number, b.number) })
	var goals []api.Goal
	for _, s := range l {
		goals = append(goals, s.goal)
	}
	return goals
}

// varsOf are the variables of the first goal of that name that waits.
func (w *waiting) varsOf(goal api.Name) []api.Name {
	first := sleeper{number: w.begun}
	for number, s := range w.sleepers {
		if s.goal.Name == goal && number < first.number {
			first = s
		}
	}
	return slices.Clone(first.vars)
}

func (w *waiting) sleeps(goal api.Name) bool { return len(w.varsOf(goal)) > 0 }

// vars are all variables that have a row, rising.
func (w *waiting) vars() []api.Name { return order.Keys(w.rows) }

// fork has rows of its own, as those are changed in place; a goal's variables are not.
func (w *waiting) fork() waiting {
	other := waiting{sleepers: maps.Clone(w.sleepers), rows: map[api.Name]row{}, begun: w.begun}
	for v, r := range w.rows {
		other.rows[v] = row{numbers: slices.Clone(r.numbers), gone: r.gone}
	}
	return other
}
