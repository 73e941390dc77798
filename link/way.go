package link

import (
	"bytes"
	"slices"
)

// way is what one node knows of its messages to and from another one.
type way struct {
	awaited int      // the number of the message that comes next
	first   int      // the number of the first message in the outbox; all ahead of it are acknowledged
	outbox  [][]byte // nobody else has these bytes, and they are never changed: so copied ways share them
}

func (w *way) sent() int { return w.first + len(w.outbox) }

// put lays a copy of a message behind all others: its number.
func (w *way) put(b []byte) int {
	w.outbox = append(w.outbox, bytes.Clone(b))
	return w.sent() - 1
}

// letGo lets go all messages up to a number; behind an older acknowledgement there are none.
func (w *way) letGo(seq int) {
	n := max(seq+1-w.first, 0)
	clear(w.outbox[:n]) // what lies ahead of the row would be kept else
	w.outbox = w.outbox[n:]
	w.first += n
}

func (w *way) copied() way {
	c := *w
	c.outbox = slices.Clone(w.outbox)
	return c
}
