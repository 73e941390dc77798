package match

import "purlin/api"

// waiting gathers variables for which something waits, each once, as they come.
type waiting struct {
	names []api.Name
	met   map[api.Name]struct{}
}

func (w *waiting) wait(l ...api.Name) {
	if w.met == nil {
		w.met = map[api.Name]struct{}{}
	}
	for _, v := range l {
		if _, again := w.met[v]; !again {
			w.met[v] = struct{}{}
			w.names = append(w.names, v)
		}
	}
}

func (w *waiting) waits() bool { return len(w.names) > 0 }

// none is what came of it where nothing commits.
func (w *waiting) none() Tried {
	if w.waits() {
		return Tried{Outcome: api.Suspends, Clause: noClause, Waits: w.names}
	}
	return failed()
}

// gathering is what came of a program's clauses as far as they were tried.
type gathering struct {
	waiting
	first Tried
}

// settled takes in what came of one more; true: nothing behind it is asked for.
func (g *gathering) settled(number int, t Tried) bool {
	if t.Outcome != api.Commits {
		g.wait(t.Waits...)
		return false
	}
	g.first = t
	g.first.Clause = number
	return true
}

func (g *gathering) tried() Tried {
	if g.first.Outcome == api.Commits {
		return g.first
	}
	return g.none()
}

// noClause is the number that stands where none commits, or none was asked for.
const noClause = -1

func failed() Tried { return Tried{Outcome: api.Fails, Clause: noClause} }
