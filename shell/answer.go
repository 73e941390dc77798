package shell

import (
	"strconv"
	"strings"

	"purlin/api"
	"purlin/syntax"
	"purlin/term"
)

// answer is lines without their ends.
type answer []string

func (a answer) text() string { return strings.Join(a, "\n") + "\n" }

// joined is words with a blank between, as a line.
func joined(l ...string) string { return strings.Join(l, blank) }

func decimal(n int) string { return strconv.Itoa(n) }

// failed is the answer of an error, with its place, where a call tells one.
func failed(e api.Errno, at ...int) answer {
	text := joined("error", decimal(int(e)))
	for _, n := range at {
		text = joined(text, decimal(n))
	}
	return answer{text}
}

// done is the answer of what tells nothing but its error.
func done(e api.Errno) answer {
	if e != api.OK {
		return failed(e)
	}
	return answer{"ok"}
}

// each is a line of each thing; none, if there are none.
func each(l ...string) answer {
	if len(l) == 0 {
		return answer{"none"}
	}
	return l
}

// termText: all terms that a cluster has are right, and have a text.
func termText(t api.Term) string {
	text, _ := syntax.Print(t)
	return text
}

func variableText(v api.Name) string { return termText(term.OfVar(v)) }

func nameText(n api.Name) string { return decimal(n.Node) + "." + decimal(n.Number) }

func verdictText(v api.Verdict) string {
	switch v {
	case api.Failed:
		return "failed"
	case api.OutOfFuel:
		return "fuel"
	case api.Terminated:
		return "terminated"
	case api.Suspended:
		return "suspended"
	}
	return "running"
}
