package durable

import (
	"bytes"

	"purlin/api"
	"purlin/syntax"
	"purlin/term"
)

// Encode is an event as bytes.
func Encode(e api.Event) ([]byte, api.Errno) {
	kind := []byte{byte(e.Kind)}
	switch {
	case isBare(e):
		return kind, api.OK
	case isMessage(e):
		return append(append(kind, byte(e.From)), e.Bytes...), api.OK
	}
	text, ok := textOf(e)
	if !ok {
		return nil, api.ErrForm
	}
	return append(kind, text...), api.OK
}

// isBare tells whether an event is one that has nothing but its kind.
func isBare(e api.Event) bool {
	return (e.Kind == api.Step || e.Kind == api.Collect) && e.From == 0 && len(e.Bytes) == 0 && len(e.Term) == 0
}

// isMessage tells whether an event is a Receive that may be recorded.
func isMessage(e api.Event) bool {
	return e.Kind == api.Receive && e.From >= 0 && e.From < api.MaxNodes && len(e.Bytes) <= api.MaxMessage && len(e.Term) == 0
}

// textOf is the text of the goal of a Submit that may be recorded; false: it is none such.
func textOf(e api.Event) (string, bool) {
	if e.Kind != api.Submit || e.From != 0 || len(e.Bytes) > 0 {
		return "", false
	}
	text, errno := syntax.Print(e.Term)
	if errno != api.OK {
		return "", false
	}
	// What has no text reads as nothing: a right term has a cell at least.
	again, _, _, _ := syntax.Term(text)
	return text, term.Equal(again, e.Term)
}

// Decode reads one.
func Decode(b []byte) (api.Event, api.Errno) {
	e := read(b)
	// One event may be read of many bytes, as a text has blanks where one likes: it has those alone that Encode writes.
	again, errno := Encode(e)
	if errno != api.OK || !bytes.Equal(again, b) {
		return api.Event{}, api.ErrForm
	}
	return e, api.OK
}

// read is the event of which these can be the bytes.
func read(b []byte) (e api.Event) {
	if len(b) == 0 {
		return e
	}
	e.Kind = api.EventKind(b[0])
	rest := b[1:len(b):len(b)]
	switch {
	case e.Kind == api.Receive && len(rest) > 0:
		e.From = int(rest[0])
		e.Bytes = bytes.Clone(rest[1:len(rest):len(rest)])
	case e.Kind == api.Submit:
		e.Term, _, _, _ = syntax.Term(string(rest))
	}
	return e
}
