package credit

import (
	"strconv"
	"strings"

	"purlin/api"
)

const plus = "+"

// Print is an amount as a text.
func Print(a api.Amount) string {
	if !Right(a) {
		return ""
	}
	text := strconv.AppendInt(nil, int64(a.Whole), 10)
	for _, b := range a.Bits {
		text = strconv.AppendInt(append(text, plus...), int64(b), 10)
	}
	return string(text)
}

// Parse reads one. Numbers may be written in other forms, too: that the text is the one that Print writes rules these out, and amounts that are not right.
func Parse(s string) (api.Amount, api.Errno) {
	a, ok := read(s)
	if !ok || Print(a) != s {
		return api.Amount{}, api.ErrForm
	}
	return a, api.OK
}

// read takes a row of numbers with a plus between each two, whatever they are.
func read(s string) (a api.Amount, ok bool) {
	for i, part := range strings.Split(s, plus) {
		n, err := strconv.Atoi(part)
		switch {
		case err != nil:
			return api.Amount{}, false
		case i == 0:
			a.Whole = n
		default:
			a.Bits = append(a.Bits, n)
		}
	}
	return a, true
}
