package syntax_test

import (
	"math/rand"
	"reflect"
	"slices"
	"strings"
	"testing"

	"purlin/api"
	"purlin/lex"
	"purlin/syntax"
)

// grammar is chapter 3's, each row with its choices; R, K, V, N, G stand for signs of rel, Names, Variables, Numbers, Globals.
var grammar = map[string][]string{
	"program": {"clause", "program clause"},
	"clause":  {"head .", "head :- ats .", "head :- ats | ats ."},
	"ats":     {"at", "ats , at"},
	"head":    {"K", "K ( ats )"},
	"at":      {"rel", "rel @ sum"},
	"rel":     {"sum", "sum R sum"},
	"sum":     {"prod", "sum + prod", "sum - prod"},
	"prod":    {"prim", "prod * prim"},
	"prim":    {"N", "- N", "K", "K ( ats )", "V", "G", "( at )"},
}

// spelt are the tokens that rows are made of, and what the grammar calls them.
var spelt = map[string]string{
	"a": "K", "X0": "V", "1": "N", "?0_0": "G", "=": "R", "<": "R", "(": "(", ")": ")", ",": ",", ".": ".", "|": "|",
	":-": ":-", "@": "@", "+": "+", "-": "-", "*": "*",
}

// item is a choice of the grammar that is met up to a dot; sets of them tell, as Earley (1970) does, what may come next.
type item struct {
	row, choice string
	dot, from   int
}

type chart []map[item]struct{}

func (c chart) add(at int, i item) bool {
	_, known := c[at][i]
	c[at][i] = struct{}{}
	return !known
}

func (i item) next() string {
	if l := strings.Fields(i.choice); i.dot < len(l) {
		return l[i.dot]
	}
	return ""
}

// fill adds to the last set what follows from it.
func (c chart) fill() {
	at := len(c) - 1
	for grows := true; grows; {
		grows = false
		for i := range c[at] {
			var more []item
			for _, choice := range grammar[i.next()] {
				more = append(more, item{i.next(), choice, 0, at})
			}
			if i.next() == "" {
				for j := range c[i.from] {
					if j.next() == i.row {
						more = append(more, item{j.row, j.choice, j.dot + 1, j.from})
					}
				}
			}
			for _, m := range more {
				grows = c.add(at, m) || grows
			}
		}
	}
}

func begin(row string) chart {
	c := chart{{}}
	for _, choice := range grammar[row] {
		c.add(0, item{row, choice, 0, 0})
	}
	c.fill()
	return c
}

// on is the chart with one token more; its last set is empty, if that token cannot go on so.
func (c chart) on(token string) chart {
	next := append(slices.Clone(c), map[item]struct{}{})
	for i := range c[len(c)-1] {
		if i.next() == spelt[token] {
			next.add(len(c), item{i.row, i.choice, i.dot + 1, i.from})
		}
	}
	next.fill()
	return next
}

func (c chart) whole(row string) bool {
	for i := range c[len(c)-1] {
		if i.row == row && i.from == 0 && i.next() == "" {
			return true
		}
	}
	return false
}

// eachRow calls check with all rows of tokens of up to most, whose last token alone may be one that cannot go on so.
func eachRow(row string, most int, check func(tokens []string, c chart)) {
	var down func(tokens []string, c chart)
	down = func(tokens []string, c chart) {
		check(tokens, c)
		if len(tokens) == most || len(c[len(c)-1]) == 0 {
			return
		}
		for s := range spelt {
			down(append(slices.Clone(tokens), s), c.on(s))
		}
	}
	down(nil, begin(row))
}

// told is what must be told of a row of tokens, with blanks between.
func told(row string, tokens []string, c chart) (e api.Errno, at int) {
	text := strings.Join(tokens, " ")
	switch {
	case len(c[len(c)-1]) == 0:
		return api.ErrSyntax, strings.LastIndex(text, " ") + 1
	case c.whole(row) || row == "program" && text == "":
		return api.OK, 0
	}
	return api.ErrEnd, len(text)
}

func TestTermsByGrammar(t *testing.T) {
	rows := 0
	eachRow("at", 5, func(tokens []string, c chart) {
		rows++
		wantE, wantAt := told("at", tokens, c)
		var want api.Term
		if wantE == api.OK {
			want = slowTerm(tokens)
		}
		text := strings.Join(tokens, " ")
		got, _, e, at := syntax.Term(text)
		if e != wantE || at != wantAt || !same(got, want) {
			t.Fatalf("%q: %v, %v at %d; want %v, %v at %d", text, got, e, at, want, wantE, wantAt)
		}
		if wantE == api.ErrSyntax {
			if _, _, e, at := syntax.Term(text + " a ) ?4_0 ("); e != wantE || at != wantAt {
				t.Fatalf("%q and more: %v at %d; want %v at %d", text, e, at, wantE, wantAt)
			}
		}
	})
	if rows < 10000 {
		t.Errorf("%d rows of tokens alone", rows)
	}
}

func TestProgramsByGrammar(t *testing.T) {
	eachRow("program", 6, func(tokens []string, c chart) {
		wantE, wantAt := told("program", tokens, c)
		text := strings.Join(tokens, " ")
		p, e, at := syntax.Program(text)
		if e != wantE || at != wantAt || len(p) > 0 && e != api.OK {
			t.Fatalf("%q: %v, %v at %d; want %v at %d", text, p, e, at, wantE, wantAt)
		}
	})
}

// slowTerm is what a whole row of tokens means: it is cut at the sign that binds least, of several the last one.
func slowTerm(l []string) api.Term {
	for _, row := range []string{"@", "= <", "+ -", "*"} {
		if at := lastOutside(l, strings.Fields(row)); at > 0 {
			return structure(l[at], slowTerm(l[:at]), slowTerm(l[at+1:]))
		}
	}
	switch {
	case l[0] == "(":
		return slowTerm(l[1 : len(l)-1])
	case l[0] == "-":
		return number(-1)
	case l[0] == "1":
		return one
	case l[0] == "X0":
		return local(0)
	case l[0] == "?0_0":
		return variable(0, 0)
	case len(l) == 1:
		return atom(l[0])
	}
	var args []api.Term
	for inner := l[2 : len(l)-1]; inner != nil; {
		end := lastOutside(inner, []string{","})
		args = append([]api.Term{slowTerm(inner[end+1:])}, args...)
		if end < 0 {
			break
		}
		inner = inner[:end]
	}
	return structure(l[0], args...)
}

// lastOutside is the place of the last one of some signs outside brackets that has a part ahead of it; -1: there is none.
func lastOutside(l []string, signs []string) int {
	depth, found := 0, -1
	for i, s := range l {
		switch s {
		case "(":
			depth++
		case ")":
			depth--
		}
		unary := s == "-" && (i == 0 || slices.Contains(strings.Fields("( , @ = < + - *"), l[i-1]))
		if depth == 0 && !unary && slices.Contains(signs, s) {
			found = i
		}
	}
	return found
}

// terms are all terms of up to some cells, of few numbers, names and signs; their own variables are numbered as they first come.
func terms(cells int) []api.Term {
	byLength := make([][]api.Term, cells+1)
	if cells >= 1 {
		byLength[1] = []api.Term{a, number(-1), two, local(0), local(1), variable(1, 0)}
	}
	for n := 2; n <= cells; n++ {
		for _, x := range byLength[n-1] {
			byLength[n] = append(byLength[n], structure("f", x))
		}
		for left := 1; left < n-1; left++ {
			for _, x := range byLength[left] {
				for _, y := range byLength[n-1-left] {
					for _, s := range []string{"f", "=", "@", "+", "-", "*", ":="} {
						byLength[n] = append(byLength[n], structure(s, x, y))
					}
				}
			}
		}
	}
	return slices.DeleteFunc(slices.Concat(byLength...), func(t api.Term) bool { return !same(t, renumbered(t)) })
}

func renumbered(t api.Term) api.Term {
	t = slices.Clone(t)
	numbers := map[int]int{}
	for i, c := range t {
		if c.Kind != api.Var || c.Var.Node != -1 {
			continue
		}
		if _, known := numbers[c.Var.Number]; !known {
			numbers[c.Var.Number] = len(numbers)
		}
		t[i].Var.Number = numbers[c.Var.Number]
	}
	return t
}

// some is a term of about so many cells, out of all that there may be.
func some(r *rand.Rand, cells int) api.Term {
	if cells < 2 {
		switch r.Intn(6) {
		case 0:
			return number(r.Intn(2*api.MaxNumber+1) - api.MaxNumber)
		case 1:
			return number(r.Intn(7) - 3)
		case 2:
			return atom([]string{"a", "true", "abcdefghijklmnop", "zZ_9"}[r.Intn(4)])
		case 3:
			return variable(r.Intn(api.MaxNodes), r.Intn(1<<40+1))
		}
		return local(r.Intn(api.MaxLocals))
	}
	name, n := signs[r.Intn(len(signs))], 2
	if r.Intn(3) == 0 {
		name, n = "f", 1+r.Intn(api.MaxArity)
	}
	var args []api.Term
	for i := range n {
		args = append(args, some(r, (cells-1)/n+(i+r.Intn(3))%2))
	}
	return structure(name, args...)
}

func TestTermsComeBack(t *testing.T) {
	l := terms(5)
	r := rand.New(rand.NewSource(3))
	for range 3000 {
		if x := renumbered(some(r, 1+r.Intn(150))); len(x) <= api.MaxCells {
			l = append(l, x)
		}
	}
	if len(l) < 10000 {
		t.Fatalf("%d terms", len(l))
	}
	met := map[string]api.Term{}
	for _, x := range l {
		s, e := syntax.Print(x)
		if e != api.OK {
			t.Fatalf("Print(%v): %v", x, e)
		}
		if y, again := met[s]; again && !same(x, y) {
			t.Errorf("%v and %v: %q", x, y, s)
		}
		met[s] = x
		if y, _, e, at := syntax.Term(s); e != api.OK || at != 0 || !same(x, y) {
			t.Errorf("%v: %q: %v, %v at %d", x, s, y, e, at)
		}
	}
}

func programs() []string {
	return []string{
		"", "p.", "p(X, Y) :- X > 0 | q(X) @ 1, Y = a. q(_).",
		"p(X) :- X > 0 | q(X) @ 1. q(X) :- Y := X + 1, r(Y). r(3).",
		"p(A, _, _, B, A) :- A =:= B - (1 - -2) * 3, true | (p @ 1) @ (X = Y), Z, Z = (X @ ?3_7). % end",
		"f((a @ 1), (b = c), ((X + 1) * 2)) :- X | X, -1, 2147483648, (((X))). true :- true | true.",
		"a:-b|c.d:-e,f|g,h.i.", strings.Repeat("p(X) :- q(Y, X) | r(Y). ", api.MaxClauses),
		"p :- " + deep(api.MaxCells) + " | " + rowOf(api.MaxBody, variables(api.MaxLocals)) + ".",
	}
}

func TestProgramsComeBack(t *testing.T) {
	for _, text := range programs() {
		p, e, at := syntax.Program(text)
		if e != api.OK {
			t.Fatalf("%q: %v at %d", text, e, at)
		}
		s, e := syntax.PrintProgram(p)
		again, e2, at := syntax.Program(s)
		if e != api.OK || e2 != api.OK || at != 0 || !reflect.DeepEqual(p, again) {
			t.Errorf("%q: %q: %v, %v at %d", text, s, again, e2, at)
		}
	}
}

// TestGaps: other blanks and remarks between tokens change places alone, and those of errors are still their tokens'.
func TestGaps(t *testing.T) {
	texts := programs()
	for _, w := range append(wrongPrograms(), wrongLengths()...) {
		text, _ := w.cut()
		texts = append(texts, text)
	}
	for _, text := range texts {
		tokens, e, _ := lex.All(text)
		if e != api.OK {
			continue
		}
		p, e, at := syntax.Program(text)
		for _, gap := range []string{" ", "\n\t", " % : ;\n", "\r%%\n "} {
			spread, places := "%\n", map[int]int{}
			for _, k := range tokens {
				places[k.At] = len(spread)
				if k.Kind != lex.End {
					spread += k.Text + gap
				}
			}
			places[tokens[len(tokens)-1].At] = len(spread)
			if len(spread) > api.MaxText {
				continue
			}
			q, f, place := syntax.Program(spread)
			if e == api.OK {
				places[at] = 0
			}
			if f != e || place != places[at] || !reflect.DeepEqual(p, q) {
				t.Errorf("%.60q: %v at %d; with gaps %v at %d, want %d", text, e, at, f, place, places[at])
			}
		}
	}
}

// TestWhatIsToldIsTheCallers: to write into one list of an answer, behind its end too, changes no other one.
func TestWhatIsToldIsTheCallers(t *testing.T) {
	const text = "p(X, X, f(X)) :- X > 0, X | q(X), X = f(X, a). q(X)."
	want, _, _ := syntax.Program(text)
	lists := func(p api.Program) []api.Term {
		var l []api.Term
		for _, c := range p {
			l = append(append(append(l, c.Head), c.Guards...), c.Body...)
		}
		return l
	}
	for i := range lists(want) {
		p, _, _ := syntax.Program(text)
		overwrite(lists(p)[i])
		for j, x := range lists(p) {
			if i != j && !same(x, lists(want)[j]) {
				t.Errorf("a write into list %d changed list %d", i, j)
			}
		}
		if q, _, _ := syntax.Program(text); !reflect.DeepEqual(q, want) {
			t.Fatalf("a write into list %d changed what is told later", i)
		}
	}
	p, _, _ := syntax.Program(text)
	for i := range p {
		for _, l := range [][]api.Term{p[i].Guards, p[i].Body} {
			for k := len(l); k < cap(l); k++ {
				l[:cap(l)][k] = b
			}
		}
	}
	if !reflect.DeepEqual(p, want) {
		t.Errorf("a write behind a row's end: %v", p)
	}
}

func overwrite(t api.Term) {
	for i := range t[:cap(t)] {
		t[:cap(t)][i] = api.Cell{Kind: api.Atom, Text: "overwritten"}
	}
}

// TestWhatIsHandedInStays: also the room behind its end.
func TestWhatIsHandedInStays(t *testing.T) {
	spare := func(x api.Term) api.Term { return append(slices.Clone(x), api.Cell{Text: "spare"})[:len(x)] }
	sample := func() api.Program {
		return api.Program{{
			Head:   spare(structure("p", local(0))),
			Guards: append([]api.Term{spare(structure(">", local(0), one))}, b)[:1],
			Body:   append([]api.Term{spare(structure("@", structure("=", a, b), one)), spare(c)}, b)[:2],
			Locals: 1,
		}, {Head: spare(a)}}[:1]
	}
	whole := func(p api.Program) []any {
		l := []any{p[:cap(p)]}
		for _, c := range p {
			l = append(l, c.Guards[:cap(c.Guards)], c.Body[:cap(c.Body)])
			for _, x := range append(append([]api.Term{c.Head}, c.Guards...), c.Body...) {
				l = append(l, x[:cap(x)])
			}
		}
		return l
	}
	p := sample()
	before := whole(sample())
	syntax.PrintProgram(p)
	syntax.PrintClause(p[0])
	for _, x := range []api.Term{p[0].Head, p[0].Guards[0], p[0].Body[0], p[0].Body[1]} {
		syntax.Print(x)
	}
	if !reflect.DeepEqual(whole(p), before) {
		t.Errorf("%v; want %v", whole(p), before)
	}
}

// TestAnyText: rows of tokens and bytes of all kinds end, with an error or what comes back.
func TestAnyText(t *testing.T) {
	r := rand.New(rand.NewSource(7))
	words := append(strings.Fields("p q( X _ 1 2147483649 ?1_2 ?4_4 ( ) ) , . | :- @ = + - * 07 ; % ? \xff \x00 p(X):- a."), "\n")
	for range 40000 {
		var text string
		for range r.Intn(30) {
			text += words[r.Intn(len(words))] + " "[r.Intn(2):]
		}
		p, e, at := syntax.Program(text)
		if e != api.OK && (p != nil || at < 0 || at > len(text)) || e == api.OK && at != 0 {
			t.Fatalf("%q: %v, %v at %d", text, p, e, at)
		}
		x, n, e, at := syntax.Term(text)
		if e != api.OK && (x != nil || n != 0 || at < 0 || at > len(text)) || e == api.OK && at != 0 {
			t.Fatalf("%q: %v, %v at %d", text, x, e, at)
		}
		if e == api.OK {
			s, _ := syntax.Print(x)
			if y, m, _, _ := syntax.Term(s); !same(x, y) || m != n {
				t.Fatalf("%q: %v; %q: %v", text, x, s, y)
			}
		}
	}
}
