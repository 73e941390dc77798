package shell_test

import (
	"math/rand"
	"slices"
	"strconv"
	"strings"
	"testing"

	"purlin/shell"
)

var programs = []string{
	"p(X) :- X > 0 | q(X) @ 1. q(X) :- Y := X + 1, r(Y). r(3). w(a). s(X) :- s(X).",
	"stream(S) :- gen(4, L) @ 1, sum(L, 0, S) @ 2. gen(N, L) :- N =< 0 | L = nil. gen(N, L) :- N > 0 | L = cons(N, T), M := N - 1, gen(M, T).",
	"sum(nil, A, S) :- S := A. sum(cons(X, T), A, S) :- B := A + X, sum(T, B, S).",
	"bad(X) :- X = a @ 1, X = b @ 2. hang(X) :- w(X) @ 1, w(Y) @ 2. turn(X) :- turn(X) @ 1, r(3) @ 2. meet(X, Y) :- X = f(A) @ 1, Y = f(B) @ 2, X = Y.",
}

var goals = []string{"p(2)", "p(0)", "p(X)", "stream(S)", "bad(X)", "hang(X)", "turn(1)", "meet(X, Y)", "X = f(X)", "w(a) @ 1", "nobody", "X = Y", "s(1)"}

var asking = []string{"verdict", "see 0 ?0_0", "see 1 ?0_0", "see 0 ?0_1", "see 1 ?1_0", "see 2 ?2_1", "goals 0", "goals 1", "goals 2", "net", "trace", "check", "credit", "refs 0", "refs 1", "refs 2", "show", "% a remark", "see 0", "goals 7", "refs x", "verdict 1", "%"}

func one(r *rand.Rand, l []string) string { return l[r.Intn(len(l))] }

func small(r *rand.Rand, n int) string { return strconv.Itoa(r.Intn(n)) }

// someLine is a line that does something, mostly.
func someLine(r *rand.Rand) string {
	switch n := r.Intn(100); {
	case n < 32:
		return "step " + small(r, 3)
	case n < 56:
		return "deliver " + small(r, 3)
	case n < 60:
		return "resend " + small(r, 3)
	case n < 64:
		return "restart " + small(r, 3)
	case n < 66:
		return "crash " + small(r, 3)
	case n < 70:
		return one(r, []string{"step ", "deliver ", "collect "}) + small(r, 2) + " " + small(r, 40)
	case n < 73:
		return one(r, []string{"drop ", "double "}) + small(r, 3)
	case n < 76:
		return "collect " + small(r, 3)
	case n < 82:
		return "submit " + one(r, goals)
	case n < 84:
		return "fair " + small(r, 6)
	case n < 86:
		return "clause " + one(r, programs)
	case n < 87:
		return "cluster " + small(r, 4) + " " + small(r, 200)
	}
	return one(r, asking)
}

// wrongLine is one with a byte changed, out, or more; or of any bytes.
func wrongLine(r *rand.Rand) string {
	l := []byte(someLine(r))
	for range 1 + r.Intn(3) {
		i := r.Intn(len(l) + 1)
		b := " %\t\r\x00?_0123456789abcstep(),.|:-@=\xff"[r.Intn(34)]
		switch r.Intn(4) {
		case 0:
			l = slices.Insert(l, i, b)
		case 1:
			l = slices.Insert(l, i, ' ')
		case 2:
			l = slices.Delete(l, i, min(len(l), i+1))
		default:
			if i < len(l) {
				l[i] = b
			}
		}
	}
	return string(l)
}

// someScript begins with a cluster of a program, mostly.
func someScript(r *rand.Rand, n int) (lines []string) {
	if r.Intn(8) > 0 {
		for _, p := range programs {
			lines = append(lines, "clause "+p)
		}
		lines = append(lines, "cluster 3 "+one(r, []string{"300", "300", "300", "9", "0"}), "submit "+one(r, goals))
	}
	for range n {
		if r.Intn(10) == 0 {
			lines = append(lines, wrongLine(r))
		} else {
			lines = append(lines, someLine(r))
		}
	}
	return lines
}

// TestAgainstTheWords: scripts by chance are answered as the chapter's words say.
func TestAgainstTheWords(t *testing.T) {
	first := map[string]int{}
	for seed := range 1500 {
		r := rand.New(rand.NewSource(int64(seed)))
		lines := strings.Join(someScript(r, r.Intn(120)), "\n") + one(r, []string{"", "\n"})
		got, want := shell.Run(lines), slowRun(lines)
		if got != want {
			t.Fatalf("seed %d: %q: %q; want %q", seed, lines, got, want)
		}
		if shell.Run(lines) != got { // P6
			t.Fatalf("seed %d: otherwise again", seed)
		}
		for _, l := range strings.Split(got, "\n") {
			word, _, _ := strings.Cut(l, " ")
			if word == "error" {
				word = l
			}
			first[word]++
		}
	}
	for _, w := range []string{"ok", "word", "none", "error 2", "error 4", "error 5", "error 200", "error 201", "error 202", "error 203", "queue", "waits", "in", "out", "running", "failed", "fuel", "terminated", "suspended", "0:", "1:", "2:"} {
		if first[w] < 5 {
			t.Errorf("%s: %d times alone", w, first[w])
		}
	}
}

// TestAnyBytes: scripts of any bytes end, with the answer that the words say.
func TestAnyBytes(t *testing.T) {
	for seed := range 3000 {
		r := rand.New(rand.NewSource(int64(seed)))
		b := make([]byte, r.Intn(60))
		for i := range b {
			b[i] = byte(r.Intn(256))
			if r.Intn(3) > 0 {
				b[i] = "\n\n  %show clauseterm.1"[r.Intn(22)]
			}
		}
		if got, want := shell.Run(string(b)), slowRun(string(b)); got != want {
			t.Fatalf("%q: %q; want %q", b, got, want)
		}
	}
}

// eachAnswer is the answer of each line, by those of the beginnings, of which each begins that of the next one (P24.2).
func eachAnswer(t *testing.T, lines []string) (l []string) {
	t.Helper()
	ahead := ""
	for i := range lines {
		all := shell.Run(strings.Join(lines[:i+1], "\n") + "\n")
		answer, ok := strings.CutPrefix(all, ahead)
		if !ok {
			t.Fatalf("%q answers %q; without its last line %q", lines[:i+1], all, ahead)
		}
		ahead = all
		l = append(l, answer)
	}
	return l
}

// TestBeginnings is P24.2, of scripts of which the last line has no end, too.
func TestBeginnings(t *testing.T) {
	for seed := range 60 {
		r := rand.New(rand.NewSource(int64(seed)))
		lines := someScript(r, 60)
		told := strings.Join(eachAnswer(t, lines), "")
		is(t, strings.Join(lines, "\n"), told)
		is(t, strings.Join(lines, "\n\n"), told)
	}
}

// begins tells whether a line is one of those that change nothing.
func begins(l string) bool {
	word, _, _ := strings.Cut(strings.TrimLeft(l, " "), " ")
	return strings.HasPrefix(word, "%") || slices.Contains([]string{"verdict", "see", "goals", "net", "trace", "check", "credit", "refs", "show"}, word)
}

// TestAskingChangesNothing is P24.3: the other lines answer as they would without.
func TestAskingChangesNothing(t *testing.T) {
	asked := 0
	for seed := range 60 {
		r := rand.New(rand.NewSource(int64(seed)))
		lines := slices.DeleteFunc(someScript(r, 40), begins)
		var more []string
		for _, l := range lines {
			for range r.Intn(4) {
				more = append(more, one(r, asking))
				asked++
			}
			more = append(more, l)
		}
		var got string
		for i, answer := range eachAnswer(t, more) {
			if !begins(more[i]) {
				got += answer
			}
		}
		is(t, strings.Join(lines, "\n"), got)
	}
	if asked < 1000 {
		t.Error("too little was asked:", asked)
	}
}

// TestCheckIsOk is P24.4 (E1), and P24.3 of where it stands.
func TestCheckIsOk(t *testing.T) {
	count := map[string]int{}
	for seed := range 120 {
		r := rand.New(rand.NewSource(int64(1000 + seed)))
		lines := someScript(r, 60)
		for i := range lines {
			if i%5 == 0 || i == len(lines)-1 {
				l := eachAnswer(t, []string{strings.Join(lines[:i+1], "\n"), "check"})
				count[l[1]]++
			}
		}
	}
	if len(count) != 2 || count["ok\n"] < 500 || count["none\n"] < 20 {
		t.Error(count)
	}
}

// TestCrashesChangeNothing is E8: what a node knows of its own variables, its goals, references and credit are the same behind a crash and a restart.
func TestCrashesChangeNothing(t *testing.T) {
	known, some := 0, 0
	for seed := range 80 {
		r := rand.New(rand.NewSource(int64(2000 + seed)))
		ahead := []string{"restart 0", "restart 1", "restart 2"}
		for _, p := range programs {
			ahead = append(ahead, "clause "+p)
		}
		ahead = append(ahead, "cluster 3 300", "submit "+one(r, goals), "submit "+one(r, goals))
		for range 120 {
			if l := someLine(r); !strings.HasPrefix(l, "cluster") {
				ahead = append(ahead, l)
			}
		}
		ahead = append(ahead, "restart 0", "restart 1", "restart 2")
		for _, node := range []string{"0", "1", "2"} {
			asks := []string{"goals " + node, "refs " + node, "credit", "trace", "net"}
			for k := range 12 {
				asks = append(asks, "see "+node+" ?"+node+"_"+strconv.Itoa(k))
			}
			question := strings.Join(asks, "\n")
			l := eachAnswer(t, []string{strings.Join(ahead, "\n"), question, "crash " + node, "restart " + node, question})
			if l[1] != l[4] {
				t.Fatalf("seed %d, node %s: %q; was %q", seed, node, l[4], l[1])
			}
			answers := strings.Split(strings.TrimSpace(l[1]), "\n")
			for _, a := range answers[len(answers)-12:] {
				if !strings.HasPrefix(a, "error") {
					known++
				}
			}
			some += strings.Count(l[1], "queue") + strings.Count(l[1], "waits")
		}
	}
	if known < 100 || some < 100 {
		t.Error("too little was known:", known, some)
	}
}

// TestFairTails is E6 and E7: scripts of faults, then rounds without; goals that do not go on for ever come to a verdict, which is true.
func TestFairTails(t *testing.T) {
	ended := map[string]int{}
	for seed := range 150 {
		r := rand.New(rand.NewSource(int64(3000 + seed)))
		var lines []string
		for _, p := range programs {
			lines = append(lines, "clause "+p)
		}
		lines = append(lines, "cluster 3 300", "submit "+one(r, goals))
		for range 60 {
			if l := someLine(r); !strings.HasPrefix(l, "cluster") {
				lines = append(lines, l)
			}
		}
		l := eachAnswer(t, []string{strings.Join(lines, "\n"), "fair 4096", "verdict", "goals 0\ngoals 1\ngoals 2", "check"})
		verdict := strings.TrimSpace(l[2])
		ended[verdict]++
		word, _, _ := strings.Cut(l[1], " ")
		if word != verdict || l[4] != "ok\n" {
			t.Fatalf("seed %d: %q", seed, l[1:])
		}
		queued, waits := strings.Contains(l[3], "queue"), strings.Contains(l[3], "waits")
		if verdict == "running" || verdict == "terminated" && (queued || waits) || verdict == "suspended" && (queued || !waits) || verdict == "fuel" && !queued {
			t.Fatalf("seed %d: %q", seed, l[1:])
		}
	}
	if len(ended) != 4 {
		t.Error(ended)
	}
}

// TestThereAndBack is E9: what show tells is read as the same program.
func TestThereAndBack(t *testing.T) {
	for seed := range 40 {
		r := rand.New(rand.NewSource(int64(seed)))
		lines := []string{"clause " + one(r, programs), "clause " + one(r, programs), "clause a(_, X, _) :- X =< 2 * (3 - -1) | b = (c @ 1) @ 2, ?3_7 = X. a(_, _, _)."}
		shown := eachAnswer(t, append(lines, "show"))[3]
		again := ""
		for l := range strings.Lines(shown) {
			again += "clause " + l
		}
		l := eachAnswer(t, []string{strings.TrimSuffix(again, "\n"), "show"})
		if l[1] != shown || strings.Contains(l[0], "error") {
			t.Fatalf("%q; was %q", l, shown)
		}
	}
}
