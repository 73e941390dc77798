package journal

import "bytes"

// disk is bytes that are written one behind the other.
type disk struct {
	all      []byte
	complete int // how many records it holds
	end      int // the place behind them
}

// load lays a copy of bytes on an empty disk.
func (d *disk) load(b []byte) {
	d.all = bytes.Clone(b)
	for end := range records(d.all) {
		d.complete++
		d.end = end
	}
}

// write writes the first n bytes of a record (all, if it has not so many) behind complete ones: whether it is complete.
func (d *disk) write(record []byte, n int) bool {
	n = min(n, len(record))
	d.all = append(d.all, record[:n:n]...)
	if n < len(record) {
		return false
	}
	d.complete++
	d.end = len(d.all)
	return true
}

// held is what the disk holds; it lies in the disk.
func (d *disk) held() []byte { return d.all[:d.end:d.end] }

func (d *disk) tail() int { return len(d.all) - d.end }

func (d *disk) cutTail() int {
	n := d.tail()
	d.all = d.held()
	return n
}

func (d *disk) copied() disk {
	c := *d
	c.all = bytes.Clone(d.all)
	return c
}
