package journal

import (
	"bytes"
	"iter"

	"purlin/api"
)

// word is how many bytes a number has; head is how many stand ahead of a payload: those of its length and of its sum.
const (
	word = 4
	head = 2 * word
)

// Record is a payload as a record.
func Record(payload []byte) ([]byte, api.Errno) {
	if len(payload) > api.MaxRecord {
		return nil, api.ErrLong
	}
	r := make([]byte, 0, head+len(payload))
	r = putWord(r, uint32(len(payload)))
	r = putWord(r, Sum(payload))
	return append(r, payload...), api.OK
}

// Sum is the sum of bytes.
func Sum(b []byte) uint32 {
	sum := uint32(2166136261)
	for _, c := range b {
		sum = (sum ^ uint32(c)) * 16777619
	}
	return sum
}

// Read are the payloads of the complete records, and the place behind them.
func Read(b []byte) (payloads [][]byte, end int, e api.Errno) {
	for behind, payload := range records(b) {
		payloads = append(payloads, bytes.Clone(payload))
		end = behind
	}
	if end < len(b) {
		e = api.ErrTorn
	}
	return payloads, end, e
}

// records yields the complete records from the beginning on: the place behind each, and its payload, which lies in b.
func records(b []byte) iter.Seq2[int, []byte] {
	return func(yield func(int, []byte) bool) {
		for at := 0; ; {
			payload, complete := first(b[at:])
			at += head + len(payload)
			if !complete || !yield(at, payload) {
				return
			}
		}
	}
}

// first is the payload of the record with which bytes begin, if that is complete.
func first(b []byte) (payload []byte, complete bool) {
	if len(b) < head {
		return nil, false
	}
	long, sum, rest := wordOf(b[:word:word]), wordOf(b[word:head:head]), b[head:]
	// Held as it stands, so that a length that no int may have is not made one.
	if long > api.MaxRecord || int(long) > len(rest) {
		return nil, false
	}
	payload = rest[:long:long]
	return payload, Sum(payload) == sum
}

func putWord(b []byte, n uint32) []byte {
	return append(b, byte(n>>24), byte(n>>16), byte(n>>8), byte(n))
}

func wordOf(b []byte) uint32 {
	n := uint32(0)
	for _, c := range b {
		n = n<<8 | uint32(c)
	}
	return n
}
