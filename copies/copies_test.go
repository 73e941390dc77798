package copies_test

import (
	"fmt"
	"testing"

	"purlin/api"
	"purlin/copies"
)

func cells() api.Term { return api.Term{{Kind: api.Struct, Text: "f", N: 1}, {Kind: api.Int, N: 7}} }

// TestCopiesStandAlone: what is copied may be overwritten, down to its last list.
func TestCopiesStandAlone(t *testing.T) {
	terms := []api.Term{cells(), nil, cells()}
	goals := []api.Goal{{Name: api.Name{Node: 1, Number: 2}, Term: cells()}, {}}
	program := api.Program{{Head: cells(), Guards: []api.Term{cells()}, Body: []api.Term{cells(), cells()}, Locals: 3}, {}}
	amount := api.Amount{Whole: 2, Bits: []int{1, 4}}
	message := api.Message{Tag: api.Ship, Goal: api.Name{Node: 1}, Term: cells(), Count: 3, Flags: 1, Credit: api.Amount{Bits: []int{3}}}
	commits := []api.Commit{{Node: 1, Goal: api.Goal{Name: api.Name{Node: 1}, Term: cells()}, Fails: true, Clause: 4, Fresh: []api.Name{{Node: 1, Number: 3}}, Bound: []api.Binding{{Var: api.Name{Number: 2}, Term: cells()}}, Goals: []api.Goal{{Name: api.Name{Node: 2}, Term: cells()}}}, {}}
	want := fmt.Sprint(terms, goals, program, amount, message, commits)
	a, b, c, d, e, f := copies.Terms(terms), copies.Goals(goals), copies.Program(program), copies.Amount(amount), copies.Message(message), copies.Commits(commits)
	if got := fmt.Sprint(a, b, c, d, e, f); got != want {
		t.Errorf("%s, want %s", got, want)
	}
	clear(terms[0])
	clear(terms)
	clear(goals[0].Term)
	clear(goals)
	clear(program[0].Head)
	clear(program[0].Guards[0])
	clear(program[0].Guards)
	clear(program[0].Body[1])
	clear(program[0].Body)
	clear(program)
	clear(amount.Bits)
	clear(message.Term)
	clear(message.Credit.Bits)
	clear(commits[0].Goal.Term)
	clear(commits[0].Fresh)
	clear(commits[0].Bound[0].Term)
	clear(commits[0].Bound)
	clear(commits[0].Goals[0].Term)
	clear(commits[0].Goals)
	clear(commits)
	if got := fmt.Sprint(a, b, c, d, e, f); got != want {
		t.Errorf("%s, want %s", got, want)
	}
}

func TestCopiesOfNothing(t *testing.T) {
	if copies.Terms(nil) != nil || copies.Goals(nil) != nil || copies.Program(nil) != nil || copies.Amount(api.Amount{}).Bits != nil || copies.Message(api.Message{}).Term != nil || copies.Commits(nil) != nil || copies.Commit(api.Commit{}).Goals != nil {
		t.Error("a copy of nothing is something")
	}
}
