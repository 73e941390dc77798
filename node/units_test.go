package node

import (
	"testing"

	"purlin/api"
)

// TestUnitsAreFull: ErrFull, when no unit more may be given out; no test could submit so many goals.
func TestUnitsAreFull(t *testing.T) {
	n, _ := New(nil, 0, 1, 0)
	goal := api.Event{Kind: api.Submit, Term: api.Term{{Kind: api.Atom, Text: "p"}}}
	n.machine.units = 1<<31 - 2
	if d := n.Do(goal); d.Errno != api.OK {
		t.Error(d)
	}
	for range 2 {
		if d := n.Do(goal); d.Errno != api.ErrFull || len(d.Sent) > 0 {
			t.Error(d)
		}
	}
	if _, units := n.Collected(); units != 1<<31-1 || len(n.Queue()) != 1 {
		t.Error(units, n.Queue())
	}
	// A goal that may not begin is told first.
	if d := n.Do(api.Event{Kind: api.Submit}); d.Errno != api.ErrForm {
		t.Error(d)
	}
}
