package trace

import (
	"purlin/api"
	"purlin/copies"
	"purlin/model"
)

// run is the abstract machine, as far as a run has come.
type run struct {
	*model.Model
}

func begin(p api.Program, nodes int, submitted ...api.Goal) (run, api.Errno) {
	m, e := model.New(p, nodes)
	if e != api.OK {
		return run{}, e
	}
	r := run{m}
	for _, g := range submitted {
		if e := r.Submit(g); e != api.OK {
			return run{}, e
		}
	}
	return r, api.OK
}

// follow does commits until one is no reduction: its error, and how many were done.
func (r run) follow(commits ...api.Commit) (api.Errno, int) {
	for i, c := range commits {
		if e := r.Take(c); e != api.OK {
			return e, i
		}
	}
	return api.OK, len(commits)
}

// merge does commits of rows as long as a row can give one; false: some are left.
func (r run) merge(rows ...[]api.Commit) (merged []api.Commit, whole bool) {
	next, all := make([]int, len(rows)), 0
	for _, row := range rows {
		all += len(row)
	}
again:
	for len(merged) < all {
		for i, row := range rows {
			if next[i] < len(row) && r.Take(row[next[i]]) == api.OK {
				merged = append(merged, copies.Commit(row[next[i]]))
				next[i]++
				continue again
			}
		}
		return nil, false
	}
	return merged, true
}
