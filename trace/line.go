package trace

import (
	"strconv"
	"strings"

	"purlin/api"
	"purlin/syntax"
)

// line is a text that is written part by part; wrong: a term was not right.
type line struct {
	strings.Builder
	wrong bool
}

// Print is a commit as a text.
func Print(c api.Commit) (string, api.Errno) {
	var l line
	l.commit(c)
	if l.wrong {
		return "", api.ErrForm
	}
	return l.String(), api.OK
}

func (l *line) commit(c api.Commit) {
	l.text(strconv.Itoa(c.Node), ": ")
	l.goal(c.Goal)
	if c.Fails {
		l.text(" fails")
	}
	if c.Clause != -1 {
		l.text(" by ", strconv.Itoa(c.Clause))
	}
	for _, b := range c.Bound {
		l.text(" ; ", variable(b.Var), " := ")
		l.term(b.Term)
	}
	for _, g := range c.Goals {
		l.text(" ; ")
		l.goal(g)
	}
}

func (l *line) text(parts ...string) {
	for _, s := range parts {
		l.WriteString(s)
	}
}

func (l *line) goal(g api.Goal) {
	l.text(strconv.Itoa(g.Name.Node), ".", strconv.Itoa(g.Name.Number), " ")
	l.term(g.Term)
}

func (l *line) term(t api.Term) {
	s, e := syntax.Print(t)
	l.text(s)
	l.wrong = l.wrong || e != api.OK
}

// variable is the text of any name: those that no right term has, too.
func variable(v api.Name) string {
	if v.Node == -1 {
		return "X" + strconv.Itoa(v.Number)
	}
	return "?" + strconv.Itoa(v.Node) + "_" + strconv.Itoa(v.Number)
}
