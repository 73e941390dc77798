package queue

import (
	"slices"

	"purlin/api"
	"purlin/copies"
)

// ready is the row of goals that can go, the next one first.
type ready struct {
	row []api.Goal
}

func (r *ready) put(l ...api.Goal) { r.row = append(r.row, l...) }

func (r *ready) going() int { return len(r.row) }

func (r *ready) first() api.Goal { return copies.Goals(r.row[:1])[0] }

// leave lets the first one go. Its place is emptied, lest the row holds its term as long as those behind it are there.
func (r *ready) leave() {
	r.row[0] = api.Goal{}
	r.row = r.row[1:]
}

func (r *ready) goes(goal api.Name) bool {
	return slices.ContainsFunc(r.row, func(g api.Goal) bool { return g.Name == goal })
}

func (r *ready) fork() ready { return ready{row: slices.Clone(r.row)} }
