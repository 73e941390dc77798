package shell

import (
	"iter"
	"strconv"
	"strings"

	"purlin/api"
	"purlin/lex"
)

const blank = " "

// words is what is left of a line, from which words are taken one by one.
type words string

// next takes a word out, with the blank that ends it, so that a text behind it keeps all others; an empty one: there is none.
func (w *words) next() string {
	word, rest, _ := strings.Cut(strings.TrimLeft(string(*w), blank), blank)
	*w = words(rest)
	return word
}

func (w words) some() bool { return strings.Trim(string(w), blank) != "" }

// line is a line of a script: its first word, and what stands behind that.
type line struct {
	first string
	words
}

// lines yields those that are to be answered, in order.
func lines(script string) iter.Seq[line] {
	return func(yield func(line) bool) {
		for text := range strings.SplitSeq(script, "\n") {
			l := line{words: words(text)}
			l.first = l.next()
			isAsked := l.first != "" && !strings.HasPrefix(l.first, "%")
			if isAsked && !yield(l) {
				return
			}
		}
	}
}

// order is what a line says behind its first word.
type order struct {
	numbers  [2]int // one that is missing is 0
	text     string
	variable api.Name // that which the text is, if it must be one
}

// read tells what a line says, if it is of the form.
func (f form) read(l line) (o order, right bool) {
	for i := range f.numbers {
		if f.spare && i == f.numbers-1 && !l.some() {
			break
		}
		if o.numbers[i], right = number(l.next()); !right {
			return order{}, false
		}
	}
	if f.text == nil {
		return o, !l.some()
	}
	o.text = string(l.words)
	return o, f.text(&o)
}

// number is the one that a word is. The library reads other forms, too: that it writes the same rules them out.
func number(word string) (int, bool) {
	n, err := strconv.Atoi(word)
	return n, err == nil && n >= 0 && n < 1<<31 && strconv.Itoa(n) == word
}

func (o *order) hasWord() bool { return words(o.text).some() }

// isGlobal tells whether the text is one Global and nothing else, and keeps which variable that is.
func (o *order) isGlobal() bool {
	l, _, _ := lex.All(o.text)
	if len(l) != 2 || l[0].Kind != lex.Global {
		return false
	}
	o.variable = api.Name{Node: l[0].Node, Number: l[0].N}
	return true
}
