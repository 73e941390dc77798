package shell_test

import (
	"fmt"
	"regexp"
	"strconv"
	"strings"

	"purlin/api"
	"purlin/cluster"
	"purlin/credit"
	"purlin/fair"
	"purlin/syntax"
	"purlin/term"
	"purlin/trace"
)

// slow is a shell by the chapter's words: what a line must be is a regular form.
type slow struct {
	kept, made api.Program
	nodes      int
	c          *cluster.Cluster
}

// A number in decimal; what stands behind it says how far it goes.
const decimal = `(0|[1-9][0-9]*)`

var (
	passed = regexp.MustCompile(`^ *(%.*)?$`)
	global = regexp.MustCompile(`(?s)^[ \t\r]*\?` + decimal + `_` + decimal + `[ \t\r]*(%.*)?$`)
)

// form is a line's: blanks, its words, blanks; a text behind the one blank that ends the word ahead of it.
func form(word string, numbers, spare int, text bool) *regexp.Regexp {
	s := `(?s)^ *` + word + strings.Repeat(` +`+decimal, numbers) + strings.Repeat(`(?: +`+decimal+`)?`, spare)
	if text {
		return regexp.MustCompile(s + ` ( *[^ ].*)$`)
	}
	return regexp.MustCompile(s + ` *$`)
}

type row struct {
	form  *regexp.Regexp
	alone bool
	deed  func(s *slow, n []int, text string) string
}

var table = []row{
	{form("clause", 0, 0, true), true, (*slow).clause},
	{form("cluster", 2, 0, false), true, (*slow).cluster},
	{form("submit", 0, 0, true), false, (*slow).submit},
	{form("step", 1, 1, false), false, ofNode(api.DoStep)},
	{form("collect", 1, 1, false), false, ofNode(api.DoCollect)},
	{form("deliver", 1, 1, false), false, ofDatagram(api.Deliver)},
	{form("drop", 1, 0, false), false, ofDatagram(api.Drop)},
	{form("double", 1, 0, false), false, ofDatagram(api.Double)},
	{form("resend", 1, 0, false), false, ofNode(api.Resend)},
	{form("crash", 1, 0, false), false, ofNode(api.Crash)},
	{form("restart", 1, 0, false), false, ofNode(api.Restart)},
	{form("fair", 1, 0, false), false, (*slow).fair},
	{form("verdict", 0, 0, false), false, func(s *slow, _ []int, _ string) string { return verdicts[s.c.Verdict()] + "\n" }},
	{form("see", 1, 0, true), false, (*slow).see},
	{form("goals", 1, 0, false), false, (*slow).goals},
	{form("net", 0, 0, false), false, (*slow).net},
	{form("trace", 0, 0, false), false, (*slow).trace},
	{form("check", 0, 0, false), false, (*slow).check},
	{form("credit", 0, 0, false), false, (*slow).credit},
	{form("refs", 1, 0, false), false, (*slow).refs},
	{form("show", 0, 0, false), true, (*slow).show},
}

var verdicts = []string{"running", "failed", "fuel", "terminated", "suspended"}

func slowRun(script string) (answers string) {
	if len(script) > api.MaxScript {
		return "long\n"
	}
	var s slow
	for _, l := range strings.Split(script, "\n") {
		answers += s.line(l)
	}
	return answers
}

func (s *slow) line(l string) string {
	if passed.MatchString(l) {
		return ""
	}
	for _, r := range table {
		m := r.form.FindStringSubmatch(l)
		if m == nil {
			continue
		}
		text := ""
		if strings.Contains(r.form.String(), `[^ ]`) {
			text, m = m[len(m)-1], m[:len(m)-1]
		}
		var n []int
		for _, part := range m[1:] {
			if part == "" {
				part = "0"
			}
			x, err := strconv.ParseUint(part, 10, 31)
			if err != nil {
				return "word\n"
			}
			n = append(n, int(x))
		}
		switch {
		case strings.HasPrefix(strings.TrimLeft(l, " "), "see ") && !isGlobal(text):
			return "word\n"
		case s.c == nil && !r.alone:
			return "none\n"
		}
		return r.deed(s, n, text)
	}
	return "word\n"
}

func isGlobal(text string) bool {
	m := global.FindStringSubmatch(text)
	if m == nil {
		return false
	}
	node, err := strconv.ParseUint(m[1], 10, 64)
	number, err2 := strconv.ParseUint(m[2], 10, 64)
	return err == nil && err2 == nil && node <= 1<<40 && number <= 1<<40
}

func told(e api.Errno) string {
	if e == api.OK {
		return "ok\n"
	}
	return fmt.Sprintf("error %d\n", e)
}

func orNone(text string) string {
	if text == "" {
		return "none\n"
	}
	return text
}

func ofNode(kind api.OpKind) func(*slow, []int, string) string {
	return func(s *slow, n []int, _ string) string {
		return told(s.c.Do(api.Op{Kind: kind, Node: n[0], Cut: append(n, 0)[1]}))
	}
}

func ofDatagram(kind api.OpKind) func(*slow, []int, string) string {
	return func(s *slow, n []int, _ string) string {
		return told(s.c.Do(api.Op{Kind: kind, K: n[0], Cut: append(n, 0)[1]}))
	}
}

func (s *slow) clause(_ []int, text string) string {
	p, e, at := syntax.Program(text)
	if e != api.OK {
		return fmt.Sprintf("error %d %d\n", e, at)
	}
	if len(p)+len(s.kept) > 64 {
		return "error 5\n"
	}
	s.kept = append(append(api.Program{}, s.kept...), p...)
	return fmt.Sprintf("ok %d\n", len(s.kept))
}

func (s *slow) cluster(n []int, _ string) string {
	c, e := cluster.New(s.kept, n[0], n[1])
	if e == api.OK {
		s.c, s.made, s.nodes = c, s.kept, n[0]
	}
	return told(e)
}

func (s *slow) submit(_ []int, text string) string {
	if s.c.Up(0) {
		if _, _, e, at := syntax.Term(text); e != api.OK {
			return fmt.Sprintf("error %d %d\n", e, at)
		}
	}
	return told(s.c.Do(api.Op{Kind: api.DoSubmit, Text: text}))
}

func (s *slow) fair(n []int, _ string) string {
	v, rounds, e := fair.Go(s.c, n[0])
	if e != api.OK {
		return told(e)
	}
	return fmt.Sprintf("%s %d\n", verdicts[v], rounds)
}

func text(t api.Term) string {
	s, e := syntax.Print(t)
	if e != api.OK {
		panic(fmt.Sprint(t, e))
	}
	return s
}

func (s *slow) see(n []int, text1 string) string {
	m := global.FindStringSubmatch(text1)
	node, _ := strconv.Atoi(m[1])
	number, _ := strconv.Atoi(m[2])
	x, e := s.c.Observe(n[0], api.Name{Node: node, Number: number})
	if e != api.OK {
		return told(e)
	}
	return text(x) + "\n"
}

func (s *slow) goals(n []int, _ string) (answer string) {
	if n[0] >= s.nodes {
		return told(api.ErrRange)
	}
	for _, g := range s.c.Node(n[0]).Node().Queue() {
		answer += fmt.Sprintf("queue %d.%d %s\n", g.Name.Node, g.Name.Number, text(g.Term))
	}
	for _, g := range s.c.Node(n[0]).Node().Waiting() {
		answer += fmt.Sprintf("waits %d.%d %s\n", g.Name.Node, g.Name.Number, text(g.Term))
	}
	return orNone(answer)
}

func (s *slow) net(_ []int, _ string) (answer string) {
	for k, d := range s.c.Pending() {
		answer += fmt.Sprintf("%d %d %d %s %d\n", k, d.From, d.To, map[bool]string{true: "ack", false: "data"}[d.Ack], d.Seq)
	}
	return orNone(answer)
}

func (s *slow) trace(_ []int, _ string) (answer string) {
	for _, x := range s.c.Commits() {
		l, e := trace.Print(x)
		if e != api.OK {
			panic(fmt.Sprint(x, e))
		}
		answer += l + "\n"
	}
	return orNone(answer)
}

func (s *slow) check(_ []int, _ string) string {
	if e, at := trace.Check(s.made, s.nodes, s.c.Submitted(), s.c.Commits()...); e != api.OK {
		return fmt.Sprintf("trace %d %d\n", e, at)
	}
	return "ok\n"
}

func (s *slow) credit(_ []int, _ string) string {
	a, units := s.c.Node(0).Node().Collected()
	return fmt.Sprintf("%s %d\n", credit.Print(a), units)
}

func (s *slow) refs(n []int, _ string) (answer string) {
	if n[0] >= s.nodes {
		return told(api.ErrRange)
	}
	for _, x := range s.c.Node(n[0]).Node().Exports() {
		answer += fmt.Sprintf("out %s %d %d\n", text(term.OfVar(x.Var)), x.Node, x.Times)
	}
	for _, x := range s.c.Node(n[0]).Node().Imports() {
		answer += fmt.Sprintf("in %s %d %d\n", text(term.OfVar(x.Var)), x.Node, x.Times)
	}
	return orNone(answer)
}

func (s *slow) show(_ []int, _ string) string {
	l, e := syntax.PrintProgram(s.kept)
	if e != api.OK {
		panic(e)
	}
	return orNone(l)
}
