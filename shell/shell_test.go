package shell_test

import (
	"slices"
	"strconv"
	"strings"
	"testing"

	"purlin/api"
	"purlin/shell"
)

var _ func(string) string = shell.Run

// TestChapter is the example of chapter 24.
func TestChapter(t *testing.T) {
	runs(t, "clause p(X) :- X > 0 | q(X) @ 1. q(X) :- Y := X + 1, r(Y). r(3).", "ok 3",
		"cluster 2 100", "ok", "submit p(2)", "ok", "step 0", "ok", "goals 0", "queue 0.1 q(2) @ 1", "step 0", "ok", "net", "0 0 1 data 0",
		"deliver 0", "ok", "step 1", "ok", "goals 1", "queue 1.0 ?1_0 := 2 + 1\nqueue 1.1 r(?1_0)", "verdict", "running", "check", "ok", "hello", "word")
}

// TestExamples are the ten of DOC.md.
func TestExamples(t *testing.T) {
	for _, x := range [][]string{
		// 1 and 2: r(Y) is tried ahead of Y = 3: it waits for Y, and goes when Y is bound.
		{"submit p(2)", "ok", "step 0", "ok", "step 0", "ok", "goals 0", "none", "net", "0 0 1 data 0", "deliver 0", "ok", "step 1", "ok", "step 1", "ok",
			"goals 1", "queue 1.1 r(?1_0)\nqueue 1.2 ?1_0 = 3", "step 1", "ok", "goals 1", "queue 1.2 ?1_0 = 3\nwaits 1.1 r(?1_0)", "see 1 ?1_0", "error 4", "step 1", "ok", "see 1 ?1_0", "3", "goals 1", "queue 1.1 r(?1_0)", "step 1", "ok",
			"trace", "0: 0.0 p(2) by 0 ; 0.1 q(2) @ 1\n0: 0.1 q(2) @ 1 ; 0.2 q(2)\n1: 0.2 q(2) by 1 ; 1.0 ?1_0 := 2 + 1 ; 1.1 r(?1_0)\n1: 1.0 ?1_0 := 2 + 1 ; 1.2 ?1_0 = 3\n1: 1.2 ?1_0 = 3 ; ?1_0 := 3\n1: 1.1 r(?1_0) by 2",
			"check", "ok", "verdict", "running", "fair 9", "terminated 1", "goals 1", "none"},
		// 3
		{"submit p(0)", "ok", "step 0", "ok", "goals 0", "none", "trace", "0: 0.0 p(0) fails", "verdict", "failed"},
		{"submit p(Z)", "ok", "step 0", "ok", "goals 0", "waits 0.0 p(?0_0)", "trace", "none", "verdict", "suspended"},
		// 4
		{"clause t(X, Y) :- X = f(Y), X = f(a).", "ok 6", "cluster 1 9", "ok", "submit t(X, Y)", "ok", "fair 9", "terminated 4", "see 0 ?0_0", "f(a)", "see 0 ?0_1", "a"},
		{"clause t(X) :- X = a, X = b.", "ok 6", "cluster 1 9", "ok", "submit t(X)", "ok", "fair 9", "failed 3", "see 0 ?0_0", "a"},
		// 5: it goes to node 1, the owner of the greater one.
		{"clause t(X) :- u(X, X) @ 1. u(X, Y) :- v(X, Z) @ 0. v(X, Z) :- X = Z.", "ok 8", "cluster 2 99", "ok", "submit t(X)", "ok", "step 0", "ok", "step 0", "ok", "deliver 0", "ok", "deliver 0", "ok",
			"step 1", "ok", "step 1", "ok", "net", "0 1 0 data 0\n1 1 0 data 1", "deliver 0", "ok", "step 0", "ok", "goals 0", "queue 0.3 ?0_0 = ?1_0", "step 0", "ok", "goals 0", "none", "see 0 ?1_0", "error 4",
			"deliver 2", "ok", "goals 1", "queue 0.3 ?0_0 = ?1_0", "step 1", "ok", "see 1 ?1_0", "?0_0", "fair 9", "terminated 1", "check", "ok"},
		// 6
		{"submit p(2)", "ok", "step 0", "ok", "step 0", "ok", "drop 0", "ok", "net", "none", "resend 0", "ok", "double 0", "ok", "net", "0 0 1 data 0\n1 0 1 data 0",
			"deliver 0", "ok", "deliver 0", "ok", "goals 1", "queue 0.2 q(2)", "net", "0 1 0 ack 0\n1 1 0 ack 0", "deliver 1", "ok", "resend 0", "ok", "net", "0 1 0 ack 0"},
		// 7
		{"submit p(2)", "ok", "step 0 4", "ok", "step 0", "error 200", "goals 0", "queue 0.0 p(2)", "restart 0", "ok", "goals 0", "queue 0.0 p(2)", "trace", "none", "step 0", "ok", "trace", "0: 0.0 p(2) by 0 ; 0.1 q(2) @ 1"},
		// 8
		{"clause h(X, Y). t(X) :- h(X, X) @ 1, h(X, f(X)) @ 1.", "ok 7", "cluster 2 99", "ok", "submit t(X)", "ok", "step 0", "ok", "step 0", "ok", "refs 0", "out ?0_0 1 1", "step 0", "ok", "refs 0", "out ?0_0 1 2",
			"refs 1", "none", "deliver 0", "ok", "deliver 0", "ok", "refs 1", "in ?0_0 0 2", "collect 1", "ok", "refs 1", "in ?0_0 0 2", "step 1", "ok", "step 1", "ok", "collect 1", "ok", "refs 1", "none", "refs 0", "out ?0_0 1 2",
			"net", "0 1 0 ack 0\n1 1 0 ack 1\n2 1 0 data 0\n3 1 0 data 1", "deliver 2", "ok", "verdict", "terminated", "refs 0", "out ?0_0 1 2", "deliver 2", "ok", "refs 0", "none"},
		// 9
		{"credit", "0 0", "submit w(X) @ 1", "ok", "credit", "0 1", "step 0", "ok", "credit", "0+1 1", "verdict", "running", "fair 9", "suspended 3", "credit", "1 1"},
		// 10
		{"submit s(1)", "ok", "fair 50", "running 50", "fair 100", "fuel 50", "verdict", "fuel", "step 0", "error 203"},
	} {
		runs(t, slices.Concat(begun, x)...)
	}
}

// TestLinesThatArePassedOver: those without a word, and remarks, wherever they stand.
func TestLinesThatArePassedOver(t *testing.T) {
	for _, s := range []string{"", "\n", "\n\n\n", " ", "   \n", "%", "%\n", "% hello", "%show\n", "   % show 1 2 3\n", "\n %%\n\n  \n%"} {
		is(t, s, "")
	}
	is(t, "\n\n% first\nshow\n   \nhello\n%", "none\nword\n")
	is(t, "show%", "word\n")
	is(t, "show %", "word\n")
	is(t, "clause % nothing", "ok 0\n")
	is(t, "clause a. % b.", "ok 1\n")
}

// TestEndsOfLines: a line feed ends a line, or the end of the script; nothing else does.
func TestEndsOfLines(t *testing.T) {
	is(t, "show", "none\n")
	is(t, "show\n", "none\n")
	is(t, "show\n\n", "none\n")
	is(t, "show\nshow", "none\nnone\n")
	is(t, "clause a.\nshow", "ok 1\na.\n")
	is(t, "clause a.", "ok 1\n")
	is(t, "show\rshow\n", "word\n")
	is(t, "show\r\n", "word\n")
	is(t, "show\x00", "word\n")
	is(t, "clause a\n.\nshow", "error 23 1\nword\nnone\n")
}

// TestBlanks: words stand between as many of them as one likes; no other byte is one but for what reads a text.
func TestBlanks(t *testing.T) {
	is(t, "   show", "none\n")
	is(t, "show   ", "none\n")
	is(t, "  cluster   2    100   \n step  0   \n", "ok\nerror 202\n")
	is(t, "cluster\t2 100", "word\n")
	is(t, "cluster 2\t100", "word\n")
	is(t, "cluster 2 100\t", "word\n")
	is(t, "\tshow", "word\n")
	is(t, "show\t", "word\n")
	is(t, "cluster 2\u00a0100", "word\n")
	is(t, "clause\ta.", "word\n")
	is(t, "clause \ta.\t", "ok 1\n")
	is(t, "clause \t", "ok 0\n")
	is(t, "SHOW", "word\n")
	is(t, "sho", "word\n")
	is(t, "shows", "word\n")
}

// TestPlacesInTexts: a text is all that stands behind the one blank that ends the word ahead of it.
func TestPlacesInTexts(t *testing.T) {
	is(t, "clause (", "error 22 0\n")
	is(t, "clause    (", "error 22 3\n")
	is(t, "    clause    (", "error 22 3\n")
	is(t, "clause a   ", "error 23 4\n")
	is(t, "clause a", "error 23 1\n")
	is(t, "clause a. b:", "error 20 4\n")
	is(t, "clause a. 07.", "error 21 3\n")
	is(t, "clause  X.", "error 22 1\n")
	behind(t, begun, "submit (", "error 23 1", "submit   (  ", "error 23 5", "  submit   )", "error 22 2", "submit a b", "error 22 2", "submit a b c", "error 22 2", "submit \x80", "error 20 0", "submit ?7_0", "error 21 0", "submit p(?0_00)", "error 21 2")
}

// TestHowManyWords: too few of each line, and too many, are told ahead of all else, with a cluster and without.
func TestHowManyWords(t *testing.T) {
	few := []string{"clause", "cluster", "cluster 1", "submit", "submit   ", "step", "collect", "deliver", "drop", "double", "resend", "crash", "restart", "fair", "see", "see 0", "see 0  ", "goals", "refs"}
	many := []string{"cluster 1 2 3", "step 0 1 2", "collect 0 1 2", "deliver 0 1 2", "drop 0 0", "double 0 0", "resend 0 0", "crash 0 0", "restart 0 0", "fair 0 0", "see 0 ?0_0 ?0_0", "goals 0 0", "refs 0 0",
		"verdict 0", "net 0", "trace 0", "check 0", "credit 0", "show 0", "verdict %", "goals 0 %", "step 0 0 %"}
	for _, l := range slices.Concat(few, many, []string{"hello", "hello 1 2", "0", "?", "clauses a."}) {
		is(t, l, "word\n")
		behind(t, begun, l, "word", l+" ", "word", " "+l, "word")
	}
}

// TestNumbers: which words are numbers, wherever one stands.
func TestNumbers(t *testing.T) {
	wrong := []string{"00", "01", "+0", "+1", "-0", "-1", "1.", "1.0", "0x1", "1_0", "1e1", "a", "%", "2147483648", "4294967296", "9223372036854775807", "9223372036854775808", "18446744073709551616", "-2147483648", strings.Repeat("1", 300), "\u0661", "\xff", "1\t", "0\r", "?0_0"}
	for _, n := range wrong {
		for _, l := range []string{"cluster # 1", "cluster 1 #", "step #", "step 0 #", "collect #", "collect 0 #", "deliver #", "deliver 0 #", "drop #", "double #", "resend #", "crash #", "restart #", "fair #", "see # ?0_0", "goals #", "refs #"} {
			l = strings.ReplaceAll(l, "#", n)
			is(t, l, "word\n")
			behind(t, begun, l, "word")
		}
	}
	for _, n := range []string{"2147483647", "2147483646", "10", "4294967"} {
		behind(t, begun, "cluster "+n+" 1", "error 2", "cluster 1 "+n, map[bool]string{true: "ok", false: "error 2"}[n == "10"], "step "+n, "error 2", "step "+n+" "+n, "error 2", "step 0 "+n, "error 202", "collect "+n, "error 2",
			"collect 0 "+n, "ok", "deliver "+n, "error 4", "deliver "+n+" "+n, "error 4", "drop "+n, "error 4", "double "+n, "error 4", "resend "+n, "error 2", "crash "+n, "error 2", "restart "+n, "error 2",
			"fair "+n, map[bool]string{true: "terminated 0", false: "error 2"}[n == "10"], "see "+n+" ?0_0", "error 2", "goals "+n, "error 2", "refs "+n, "error 2")
	}
}

// TestNoCluster: none, behind word, ahead of every error of a call; but of those that need none.
func TestNoCluster(t *testing.T) {
	for _, l := range []string{"submit p(2)", "submit (", "submit 7", "step 0", "step 9", "step 0 1", "collect 0", "deliver 0", "deliver 99 9", "drop 0", "double 7", "resend 9", "crash 0", "restart 0", "fair 0", "fair 99999", "verdict", "see 0 ?0_0", "see 9 ?3_0", "goals 0", "goals 9", "net", "trace", "check", "credit", "refs 0", "refs 9"} {
		is(t, l, "none\n")
		is(t, example+"\ncluster 5 1\n"+l, "ok 5\nerror 2\nnone\n")
	}
	is(t, "see 0 X", "word\n")
	is(t, "see x ?0_0", "word\n")
	is(t, "show", "none\n")
	is(t, "clause a.", "ok 1\n")
	is(t, "cluster 1 0", "ok\n")
}

// TestLong: a script of one byte more than may be is answered by long alone.
func TestLong(t *testing.T) {
	full := "show\n" + strings.Repeat(" ", api.MaxScript-10) + "hello"
	is(t, full, "none\nword\n")
	is(t, full+" ", "long\n")
	is(t, full+"\n", "long\n")
	is(t, strings.Repeat("\n", api.MaxScript), "")
	is(t, strings.Repeat("\n", api.MaxScript+1), "long\n")
	is(t, strings.Repeat("show\n", api.MaxScript/5), strings.Repeat("none\n", api.MaxScript/5))
	is(t, strings.Repeat("show\n", api.MaxScript), "long\n")
}

// TestClause: clauses stand behind those that are kept; with an error the program stays.
func TestClause(t *testing.T) {
	row := func(n int, text string) string { return strings.TrimSpace(strings.Repeat(text+" ", n)) }
	lines := func(n int, text string) string { return strings.TrimSuffix(strings.Repeat(text+"\n", n), "\n") }
	runs(t, "show", "none", "clause a. b(X,Y):-X>Y|Y=c@1.", "ok 2", "show", "a.\nb(X0, X1) :- X0 > X1 | X1 = c @ 1.", "clause d(Z) :- e.", "ok 3", "show", "a.\nb(X0, X1) :- X0 > X1 | X1 = c @ 1.\nd(X0) :- e.",
		"clause d(", "error 23 2", "clause e. d(", "error 23 5", "show", "a.\nb(X0, X1) :- X0 > X1 | X1 = c @ 1.\nd(X0) :- e.")
	runs(t, "clause "+row(64, "a."), "ok 64", "clause b.", "error 5", "clause % none", "ok 64", "clause b", "error 23 1", "show", lines(64, "a."))
	runs(t, "clause "+row(65, "a."), "error 5 192", "show", "none")
	runs(t, "clause "+row(60, "a."), "ok 60", "clause "+row(5, "b."), "error 5", "show", lines(60, "a."), "clause "+row(4, "b."), "ok 64", "show", lines(60, "a.")+"\n"+lines(4, "b."), "clause "+row(64, "c."), "error 5", "clause "+row(65, "c."), "error 5 192")
}

// TestCluster: one in the place of another one; one that cannot be made leaves the one that is there.
func TestCluster(t *testing.T) {
	runs(t, "cluster 0 1", "error 2", "cluster 5 1", "error 2", "cluster 1 1048577", "error 2", "verdict", "none", "cluster 4 1048576", "ok", "goals 3", "none", "goals 4", "error 2", "verdict", "terminated", "cluster 1 0", "ok", "goals 0", "none", "goals 1", "error 2")
	runs(t, slices.Concat(begun, []string{"submit p(2)", "ok", "step 0", "ok", "cluster 5 1", "error 2", "goals 0", "queue 0.1 q(2) @ 1", "cluster 2 100", "ok", "goals 0", "none", "trace", "none", "credit", "0 0", "verdict", "terminated"})...)
	for _, x := range [][2]string{{"true.", "error 40"}, {"p(X, X).", "error 40"}, {"p :- X | p.", "error 41"}, {"p :- 7.", "error 42"}, {"p :- q.", "error 43"}} {
		runs(t, "clause "+x[0], "ok 1", "cluster 1 1", x[1], "cluster 9 9", x[1], "verdict", "none")
	}
	runs(t, "clause true.", "ok 1", "cluster 1 1", "error 40", "verdict", "none")
	runs(t, "cluster 1 1", "ok", "submit a", "ok", "clause p :- X | q.", "ok 1", "cluster 1 1", "error 41", "goals 0", "queue 0.0 a", "clause a.", "ok 2", "cluster 9 9", "error 41", "goals 0", "queue 0.0 a")
}

// TestClauseBehindCluster: a cluster knows the program as it was when it was made, and check too.
func TestClauseBehindCluster(t *testing.T) {
	runs(t, "clause a.", "ok 1", "cluster 1 9", "ok", "clause b.", "ok 2", "submit b", "ok", "submit a", "ok", "step 0", "ok", "trace", "0: 0.0 b fails", "step 0", "ok", "trace", "0: 0.0 b fails\n0: 0.1 a by 0", "check", "ok", "verdict", "failed",
		"show", "a.\nb.", "cluster 1 9", "ok", "submit b", "ok", "step 0", "ok", "trace", "0: 0.0 b by 1", "check", "ok", "verdict", "terminated")
}

// TestSubmit: a text that is no term is told with its place, if node 0 is up; other errors without.
func TestSubmit(t *testing.T) {
	runs(t, slices.Concat(begun, []string{"submit  p( 2 ) % a remark", "ok", "goals 0", "queue 0.0 p(2)", "submit f(X, Y, X, _) @ Z", "ok", "goals 0", "queue 0.0 p(2)\nqueue 0.1 f(?0_0, ?0_1, ?0_0, ?0_2) @ ?0_3",
		"submit 7", "error 6", "submit X", "error 6", "submit p(?0_0)", "error 6", "submit (", "error 23 1", "crash 0", "ok", "submit (", "error 200", "submit 7", "error 200", "submit p(2)", "error 200", "submit", "word",
		"restart 0", "ok", "crash 1", "ok", "submit (", "error 23 1", "submit w(a)", "ok", "goals 0", "queue 0.0 p(2)\nqueue 0.1 f(?0_0, ?0_1, ?0_0, ?0_2) @ ?0_3\nqueue 0.2 w(a)", "credit", "0 3"})...)
}

// TestOperations: each with its answer and its errors, in their order.
func TestOperations(t *testing.T) {
	runs(t, slices.Concat(begun, []string{"step 0", "error 202", "step 2", "error 2", "step 2 5", "error 2", "collect 2", "error 2", "resend 2", "error 2", "crash 2", "error 2", "restart 2", "error 2", "deliver 0", "error 4", "deliver 0 7", "error 4", "drop 0", "error 4", "double 0", "error 4",
		"restart 0", "error 201", "resend 0", "ok", "collect 0", "ok", "net", "none", "crash 1", "ok", "crash 1", "error 200", "step 1", "error 200", "step 1 9", "error 200", "collect 1", "error 200", "resend 1", "error 200", "restart 1", "ok", "restart 1", "error 201"})...)
	shipped := slices.Concat(begun, []string{"submit w(a) @ 1", "ok", "step 0", "ok", "net", "0 0 1 data 0"})
	for _, x := range [][]string{
		{"deliver 0", "ok", "net", "0 1 0 ack 0", "goals 1", "queue 0.1 w(a)"},
		{"deliver 0 0", "ok", "net", "0 1 0 ack 0"},
		{"deliver 0 1", "ok", "net", "none", "goals 1", "none", "step 1", "error 200", "restart 1", "ok", "goals 1", "none", "resend 0", "ok", "deliver 0", "ok", "goals 1", "queue 0.1 w(a)"},
		{"deliver 0 2000", "ok", "net", "none", "goals 1", "queue 0.1 w(a)", "step 1", "error 200", "restart 1", "ok", "step 1", "ok"},
		{"deliver 1", "error 4", "drop 1", "error 4", "double 1", "error 4"},
		{"crash 1", "ok", "deliver 0", "error 200", "net", "none"},
		{"double 0", "ok", "net", "0 0 1 data 0\n1 0 1 data 0", "drop 0", "ok", "net", "0 0 1 data 0", "drop 0", "ok", "net", "none"},
		{"resend 0", "ok", "resend 1", "ok", "net", "0 0 1 data 0\n1 0 1 data 0", "deliver 1", "ok", "deliver 0", "ok", "deliver 1", "ok", "resend 0", "ok", "net", "0 1 0 ack 0"},
		{"collect 0 1", "ok", "collect 0", "error 200", "net", "0 0 1 data 0", "restart 0", "ok", "collect 0 99", "ok", "collect 0", "error 200"},
		{"deliver 0", "ok", "step 1 1", "ok", "goals 1", "queue 0.1 w(a)", "restart 1", "ok", "step 1 99", "ok", "goals 1", "none", "net", "0 1 0 ack 0", "restart 1", "ok", "net", "0 1 0 ack 0", "resend 1", "ok", "net", "0 1 0 ack 0\n1 1 0 data 0"},
	} {
		runs(t, append(shipped[:len(shipped):len(shipped)], x...)...)
	}
}

// TestFairAndVerdict: each verdict's word.
func TestFairAndVerdict(t *testing.T) {
	for _, x := range [][]string{
		{"fair 0", "terminated 0", "verdict", "terminated", "crash 0", "ok", "verdict", "running", "fair 0", "running 0", "fair 4096", "terminated 1", "fair 4097", "error 2", "fair 2147483647", "error 2"},
		{"submit p(2)", "ok", "fair 3", "running 3", "verdict", "running", "fair 60", "terminated 6", "verdict", "terminated", "fair 60", "terminated 0"},
		{"submit p(0)", "ok", "fair 60", "failed 1", "verdict", "failed"},
		{"submit p(1)", "ok", "fair 60", "failed 9", "verdict", "failed", "check", "ok"},
		{"submit p(X)", "ok", "fair 60", "suspended 1", "verdict", "suspended"},
		{"submit s(1)", "ok", "fair 4096", "fuel 100", "verdict", "fuel", "check", "ok"},
		{"submit s(1) @ 1", "ok", "crash 1", "ok", "fair 4096", "fuel 103", "verdict", "fuel"},
	} {
		runs(t, slices.Concat(begun, x)...)
	}
}

// TestSee: what a node knows of one Global.
func TestSee(t *testing.T) {
	bound := slices.Concat(begun, []string{"submit f(X, Y) = f(g(Y, Z), 3)", "ok", "step 0", "ok", "step 0", "ok"})
	behind(t, bound, "see 0 ?0_0", "g(?0_1, ?0_2)", "see 0  ?0_0  ", "g(?0_1, ?0_2)", "see  0 ?0_0", "g(?0_1, ?0_2)", "see 0 ?0_0 % a remark", "g(?0_1, ?0_2)", "see 0 \t?0_0\t", "g(?0_1, ?0_2)",
		"see 0 ?0_1", "error 4", "see 0 ?0_2", "error 4", "see 0 ?0_3", "error 4", "see 0 ?1_0", "error 4", "see 0 ?3_1099511627776", "error 4", "see 0 ?9_0", "error 4", "see 1 ?0_0", "error 4", "see 2 ?0_0", "error 2", "see 2 ?9_0", "error 2")
	for _, text := range []string{"X", "a", "7", "f(?0_0)", "?0", "?0_", "?_0", "?", "??0_0", "?0_00", "?00_0", "?-1_0", "?0_-1", "?0_0.", "?0_0 ?0_0", "?0_0 = 1", "?0 _0", "? 0_0", "0_0", "_", "?0_1099511627777", "?0_0\x00", "(?0_0)", "% ?0_0", "X0", "?0_0X"} {
		behind(t, bound, "see 0 "+text, "word", "see 9 "+text, "word")
		is(t, "see 0 "+text, "word\n")
	}
	runs(t, append(bound, "step 0", "ok", "see 0 ?0_0", "g(3, ?0_2)", "see 0 ?0_1", "3", "crash 0", "ok", "see 0 ?0_0", "error 200", "see 0 ?0_9", "error 200", "see 1 ?0_0", "error 4", "see 2 ?0_0", "error 2", "restart 0", "ok", "see 0 ?0_0", "g(3, ?0_2)")...)
	// One that is too long when it is resolved: the error of Resolve.
	long := []string{"clause t(0, X) :- X = a. t(N, X) :- N > 0 | X = f(Y, Y, Y, Y, Y, Y, Y, Y), M := N - 1, t(M, Y).", "ok 2", "cluster 1 99", "ok", "submit t(3, X)", "ok", "fair 99", "terminated 17", "see 0 ?0_0", "error 5", "see 0 ?0_2", "2", "see 0 ?0_5", "a", "see 0 ?0_3", "f(a, a, a, a, a, a, a, a)"}
	runs(t, long...)
}

// TestGoalsAndRefs: of each node, up or down.
func TestGoalsAndRefs(t *testing.T) {
	const program = "clause g(X, Y) :- h(X, Y) @ 1, h(Y, X) @ 1, w(X). h(a, Y). w(a)."
	lines := []string{program, "ok 3", "cluster 3 99", "ok", "goals 0", "none", "refs 0", "none", "goals 3", "error 2", "refs 3", "error 2", "refs 2147483647", "error 2", "goals 2147483647", "error 2",
		"submit g(X, Y)", "ok", "submit w(Z)", "ok", "submit w(b)", "ok", "step 0", "ok", "step 0", "ok", "goals 0", "queue 0.2 w(b)\nqueue 0.3 h(?0_0, ?0_1) @ 1\nqueue 0.4 h(?0_1, ?0_0) @ 1\nqueue 0.5 w(?0_0)\nwaits 0.1 w(?0_2)",
		"step 0", "ok", "step 0", "ok", "step 0", "ok", "refs 0", "out ?0_0 1 2\nout ?0_1 1 2", "refs 1", "none", "deliver 0", "ok", "refs 1", "in ?0_0 0 1\nin ?0_1 0 1", "refs 2", "none", "step 1", "ok", "goals 1", "waits 0.6 h(?0_0, ?0_1)", "step 0", "ok", "goals 0", "waits 0.1 w(?0_2)\nwaits 0.5 w(?0_0)"}
	runs(t, lines...)
	for _, n := range []string{"0", "1", "2"} { // down, and up again
		lines = append(lines, "crash "+n, "ok", "goals 3", "error 2", "refs 3", "error 2", "goals 0", "waits 0.1 w(?0_2)\nwaits 0.5 w(?0_0)", "goals 1", "waits 0.6 h(?0_0, ?0_1)", "refs 0", "out ?0_0 1 2\nout ?0_1 1 2", "refs 1", "in ?0_0 0 1\nin ?0_1 0 1", "refs 2", "none", "credit", "1 3")
	}
	runs(t, lines...)
}

// TestNet: acknowledgements and others, with their numbers.
func TestNet(t *testing.T) {
	runs(t, slices.Concat(begun, []string{"net", "none", "submit w(X) @ 1", "ok", "submit r(3) @ 1", "ok", "step 0", "ok", "step 0", "ok", "net", "0 0 1 data 0\n1 0 1 data 1", "deliver 1", "ok", "net", "0 0 1 data 0", "deliver 0", "ok", "net", "0 1 0 ack 0", "resend 0", "ok", "net", "0 1 0 ack 0\n1 0 1 data 0\n2 0 1 data 1",
		"deliver 2", "ok", "net", "0 1 0 ack 0\n1 0 1 data 0\n2 1 0 ack 1", "step 1", "ok", "step 1", "ok", "net", "0 1 0 ack 0\n1 0 1 data 0\n2 1 0 ack 1\n3 1 0 data 0\n4 1 0 data 1"})...)
}

// TestCredit: of node 0, up or down.
func TestCredit(t *testing.T) {
	runs(t, slices.Concat(begun, []string{"credit", "0 0", "submit w(a) @ 1", "ok", "submit w(a)", "ok", "credit", "0 2", "step 0", "ok", "credit", "0 2", "step 0", "ok", "credit", "1 2", "crash 0", "ok", "credit", "1 2", "restart 0", "ok", "credit", "1 2", "fair 9", "terminated 3", "credit", "2 2"})...)
}

// TestNothingIsKept: each call begins anew, whatever came ahead (P6).
func TestNothingIsKept(t *testing.T) {
	lines, answers := script(slices.Concat(begun, []string{"submit p(2)", "ok", "fair 60", "terminated 9"})...)
	for range 3 {
		is(t, lines, answers)
		is(t, "show\nverdict\n", "none\nnone\n")
	}
}

// TestManyLines: a script of as many lines as there may be.
func TestManyLines(t *testing.T) {
	n := (api.MaxScript - 200) / 7
	lines := example + "\ncluster 1 1048576\nsubmit s(1)\n" + strings.Repeat("step 0\n", n) + "credit\n"
	is(t, lines, "ok 5\nok\nok\n"+strings.Repeat("ok\n", n)+"0 1\n")
	is(t, strings.Repeat("clause a.\n", 66), func() (s string) {
		for i := range 64 {
			s += "ok " + strconv.Itoa(i+1) + "\n"
		}
		return s + "error 5\nerror 5\n"
	}())
}
