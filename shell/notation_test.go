package shell_test

import (
	"strings"
	"testing"

	"purlin/shell"
)

// The tests write a script as lines, each with its answer behind it; an answer of several lines has line feeds between them.

const example = "clause p(X) :- X > 0 | q(X) @ 1. q(X) :- Y := X + 1, r(Y). r(3). w(a). s(X) :- s(X)."

// begun leads to a cluster of two nodes.
var begun = []string{example, "ok 5", "cluster 2 100", "ok"}

func script(pairs ...string) (lines, answers string) {
	for i := 0; i < len(pairs); i += 2 {
		lines += pairs[i] + "\n"
		answers += pairs[i+1] + "\n"
	}
	return lines, answers
}

// runs holds the answer of a script against what it must be, and tells the first line that is answered otherwise.
func runs(t testing.TB, pairs ...string) {
	t.Helper()
	lines, want := script(pairs...)
	if shell.Run(lines) == want {
		return
	}
	for i := 2; i <= len(pairs); i += 2 {
		lines, want = script(pairs[:i]...)
		if got := shell.Run(lines); got != want {
			_, ahead := script(pairs[:i-2]...)
			t.Errorf("%q: %q; want %q", pairs[i-2], strings.TrimPrefix(got, ahead), pairs[i-1]+"\n")
			return
		}
	}
	t.Errorf("%q", lines)
}

// behind holds the answer of each line behind the same beginning.
func behind(t testing.TB, ahead []string, pairs ...string) {
	t.Helper()
	for i := 0; i < len(pairs); i += 2 {
		runs(t, append(ahead[:len(ahead):len(ahead)], pairs[i:i+2]...)...)
	}
}

// is holds the whole answer of a script that is written as it stands.
func is(t testing.TB, script, want string) {
	t.Helper()
	if got := shell.Run(script); got != want {
		t.Errorf("%q: %q; want %q", script, got, want)
	}
}
