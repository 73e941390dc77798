package net

import (
	"bytes"
	"iter"
	"slices"

	"purlin/api"
)

// row is datagrams, numbered by their places. Nobody else has their Bytes, and they are never changed: so doubles and copied rows share them.
type row struct{ l []api.Datagram }

// own is a datagram with Bytes of its own, as it must be on its way in and out.
func own(d api.Datagram) api.Datagram {
	d.Bytes = bytes.Clone(d.Bytes)
	return d
}

func (r *row) has(k int) bool { return k >= 0 && k < len(r.l) }

func (r *row) put(d api.Datagram) { r.l = append(r.l, d) }

func (r *row) takeOut(k int) api.Datagram {
	d := r.l[k]
	r.l = slices.Delete(r.l, k, k+1)
	return d
}

// numbered yields the datagrams with their numbers, in order.
func (r *row) numbered() iter.Seq2[int, api.Datagram] { return slices.All(r.l) }

func (r *row) copied() row { return row{slices.Clone(r.l)} }
