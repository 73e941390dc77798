package journal_test

import (
	"bytes"
	"encoding/binary"
	"hash/fnv"
	"math"
	"slices"
	"strings"
	"testing"

	"purlin/api"
	"purlin/journal"
)

// The calls have the forms that chapter 14 lists.
var (
	_ func(payload []byte) ([]byte, api.Errno)                      = journal.Record
	_ func(b []byte) uint32                                         = journal.Sum
	_ func(b []byte) (payloads [][]byte, end int, e api.Errno)      = journal.Read
	_ func() *journal.Log                                           = journal.New
	_ func(b []byte) *journal.Log                                   = journal.Open
	_ func(l *journal.Log, payload []byte) api.Errno                = (*journal.Log).Append
	_ func(l *journal.Log, payload []byte, n int) (bool, api.Errno) = (*journal.Log).Cut
	_ func(l *journal.Log) bool                                     = (*journal.Log).Torn
	_ func(l *journal.Log) int                                      = (*journal.Log).Mend
	_ func(l *journal.Log) [][]byte                                 = (*journal.Log).Payloads
	_ func(l *journal.Log) []byte                                   = (*journal.Log).Bytes
	_ func(l *journal.Log) (records, bytes int)                     = (*journal.Log).Len
	_ func(l *journal.Log) *journal.Log                             = (*journal.Log).Fork
)

// recordOf is a record by the chapter's words, with the library's sum.
func recordOf(payload string) string {
	h := fnv.New32a()
	h.Write([]byte(payload))
	b := binary.BigEndian.AppendUint32(nil, uint32(len(payload)))
	return string(h.Sum(b)) + payload
}

func recordsOf(payloads ...string) string {
	s := ""
	for _, p := range payloads {
		s += recordOf(p)
	}
	return s
}

func texts(l [][]byte) []string {
	var s []string
	for _, b := range l {
		s = append(s, string(b))
	}
	return s
}

// reads holds what Read tells of bytes, and what a log with them is.
func reads(t *testing.T, b string, payloads ...string) {
	t.Helper()
	end, want := len(recordsOf(payloads...)), api.OK
	if end < len(b) {
		want = api.ErrTorn
	}
	got, at, e := journal.Read([]byte(b))
	if !slices.Equal(texts(got), payloads) || at != end || e != want {
		t.Errorf("Read of %d bytes: %d payloads, %d, %v; want %d, %d, %v", len(b), len(got), at, e, len(payloads), end, want)
	}
	holds(t, journal.Open([]byte(b)), b, payloads...)
}

// holds holds all that a log tells against its bytes and the payloads that it holds.
func holds(t *testing.T, l *journal.Log, b string, payloads ...string) {
	t.Helper()
	end := len(recordsOf(payloads...))
	if got := l.Payloads(); !slices.Equal(texts(got), payloads) {
		t.Errorf("%d payloads, want %d", len(got), len(payloads))
	}
	if got := l.Bytes(); string(got) != b {
		t.Errorf("%d bytes, want %d", len(got), len(b))
	}
	if l.Torn() != (end < len(b)) {
		t.Errorf("Torn: %v; %d of %d bytes are held", l.Torn(), end, len(b))
	}
	if records, n := l.Len(); records != len(payloads) || n != len(b) {
		t.Errorf("Len: %d, %d; want %d, %d", records, n, len(payloads), len(b))
	}
}

func appends(t *testing.T, l *journal.Log, payload string) {
	t.Helper()
	if e := l.Append([]byte(payload)); e != api.OK {
		t.Errorf("Append of %d bytes: %v", len(payload), e)
	}
}

func cuts(t *testing.T, l *journal.Log, payload string, n int, complete bool) {
	t.Helper()
	if got, e := l.Cut([]byte(payload), n); e != api.OK || got != complete {
		t.Errorf("Cut of %d bytes at %d: %v, %v; want %v", len(payload), n, got, e, complete)
	}
}

// refuses holds that a payload is neither appended nor cut at any number, by that error.
func refuses(t *testing.T, l *journal.Log, payload []byte, want api.Errno) {
	t.Helper()
	before := string(l.Bytes())
	if e := l.Append(payload); e != want {
		t.Errorf("Append: %v, want %v", e, want)
	}
	for _, n := range []int{math.MinInt, -1, 0, 1, 8, math.MaxInt} {
		if complete, e := l.Cut(payload, n); complete || e != want {
			t.Errorf("Cut at %d: %v, %v; want %v", n, complete, e, want)
		}
	}
	if string(l.Bytes()) != before {
		t.Error("an error changes a log")
	}
}

func TestExamples(t *testing.T) {
	for payload, want := range map[string]string{
		"":  "\x00\x00\x00\x00\x81\x1c\x9d\xc5",
		"a": "\x00\x00\x00\x01\xe4\x0c\x29\x2c\x61",
	} {
		if r, e := journal.Record([]byte(payload)); string(r) != want || e != api.OK {
			t.Errorf("Record(%q): %x, %v", payload, r, e)
		}
	}
	l := journal.New()
	appends(t, l, "a")
	cuts(t, l, "bb", 9, false)
	holds(t, l, recordOf("a")+recordOf("bb")[:9], "a")
	refuses(t, l, []byte("c"), api.ErrTorn)
	if n := l.Mend(); n != 9 {
		t.Error(n)
	}
	holds(t, l, recordOf("a"), "a")
}

func TestSum(t *testing.T) {
	for text, want := range map[string]uint32{"": 2166136261, "a": 0xe40c292c, "b": 0xe70c2de5, "foobar": 0xbf9cf968, "hello": 0x4f9f2cab} {
		if got := journal.Sum([]byte(text)); got != want {
			t.Errorf("Sum(%q): %x, want %x", text, got, want)
		}
	}
	for c := range 256 {
		b := []byte{byte(c), 0, byte(255 - c)}
		h := fnv.New32a()
		h.Write(b)
		if got, want := journal.Sum(b), h.Sum32(); got != want {
			t.Errorf("Sum(%v): %x, want %x", b, got, want)
		}
	}
	if journal.Sum(nil) != 2166136261 {
		t.Error(journal.Sum(nil))
	}
}

func TestRecord(t *testing.T) {
	for _, n := range []int{0, 1, 2, 7, 8, 9, 255, 256, 257, 65535, 65536, 70000, api.MaxRecord - 1, api.MaxRecord} {
		payload := bytes.Repeat([]byte{1, 254, 77}, n/3+1)[:n]
		r, e := journal.Record(payload)
		if e != api.OK || string(r) != recordOf(string(payload)) {
			t.Errorf("Record of %d bytes: %d bytes, %v", n, len(r), e)
		}
		reads(t, string(r), string(payload))
		reads(t, string(r)+string(r), string(payload), string(payload))
	}
	if r, e := journal.Record(nil); e != api.OK || string(r) != recordOf("") {
		t.Error(r, e)
	}
	for _, n := range []int{api.MaxRecord + 1, api.MaxRecord + 2, 2 * api.MaxRecord, 1 << 24} {
		if r, e := journal.Record(make([]byte, n)); e != api.ErrLong || len(r) != 0 {
			t.Errorf("Record of %d bytes: %d, %v", n, len(r), e)
		}
	}
}

func TestReadOfWhatIsNoRecord(t *testing.T) {
	reads(t, "")
	reads(t, "\x00")
	reads(t, strings.Repeat("\x00", 100))
	reads(t, strings.Repeat("\xff", 100))
	reads(t, "no records at all")
	good, other := recordOf("good"), recordOf("other")
	reads(t, good+other, "good", "other")
	// A record that is complete stands behind one that is not: it is of the tail.
	for _, bad := range []string{"\x00", recordOf("")[:7], other[:4], other[:8], other[:len(other)-1], "\x00\x00\x00\x00\x00\x00\x00\x00"} {
		reads(t, bad+good)
		reads(t, good+bad+good, "good")
		reads(t, good+good+bad, "good", "good")
	}
	// A byte that no record asks for.
	reads(t, good+"x"+other, "good")
}

func TestReadOfWrongSums(t *testing.T) {
	for _, payload := range []string{"", "a", "payload"} {
		r := recordOf(payload)
		for at := 4; at < 8; at++ {
			for change := 1; change < 256; change++ {
				b := []byte(r)
				b[at] ^= byte(change)
				reads(t, recordOf("x")+string(b)+recordOf("y"), "x")
			}
		}
	}
}

// TestReadOfWrongLengths has, at each length, the right sum of what it would be.
func TestReadOfWrongLengths(t *testing.T) {
	long := strings.Repeat("p", api.MaxRecord+3)
	withLength := func(n uint32, payload string) string {
		return string(binary.BigEndian.AppendUint32(nil, n)) + recordOf(payload)[4:]
	}
	reads(t, withLength(api.MaxRecord, long[:api.MaxRecord]), long[:api.MaxRecord])
	for n := 1; n <= 3; n++ {
		reads(t, withLength(uint32(api.MaxRecord+n), long[:api.MaxRecord+n]))
		reads(t, recordOf("x")+withLength(uint32(api.MaxRecord+n), long[:api.MaxRecord+n])+recordOf("y"), "x")
	}
	for _, n := range []uint32{1 << 18, 1 << 24, 1<<31 - 1, 1 << 31, 1<<32 - 8, 1<<32 - 1} {
		reads(t, withLength(n, ""))
		reads(t, recordOf("x")+withLength(n, "abc"), "x")
	}
	// Lengths that may be, but are not those of what is there.
	for n := range uint32(12) {
		if n != 3 {
			reads(t, recordOf("x")+withLength(n, "abc"), "x")
		}
	}
	reads(t, withLength(2, "ab")+"c", "ab")
}

func TestAppend(t *testing.T) {
	l := journal.New()
	holds(t, l, "")
	long := strings.Repeat("z", api.MaxRecord)
	var all []string
	for _, p := range []string{"a", "", "bc", "", long, "d"} {
		appends(t, l, p)
		all = append(all, p)
		holds(t, l, recordsOf(all...), all...)
	}
	if e := l.Append(nil); e != api.OK {
		t.Error(e)
	}
	all = append(all, "")
	refuses(t, l, make([]byte, api.MaxRecord+1), api.ErrLong)
	if n := l.Mend(); n != 0 {
		t.Errorf("Mend of a log that is not torn: %d", n)
	}
	holds(t, l, recordsOf(all...), all...)
}

func TestCut(t *testing.T) {
	for _, p := range []string{"", "a", "bcd", strings.Repeat("e", 300)} {
		r := recordOf(p)
		for n := range len(r) + 3 {
			l := journal.Open([]byte(recordOf("first")))
			if n < len(r) {
				cuts(t, l, p, n, false)
				holds(t, l, recordOf("first")+r[:n], "first")
				continue
			}
			cuts(t, l, p, n, true)
			holds(t, l, recordOf("first")+r, "first", p)
		}
		l := journal.New()
		cuts(t, l, p, math.MaxInt, true)
		holds(t, l, r, p)
		for _, n := range []int{-1, -2, math.MinInt} {
			if complete, e := l.Cut([]byte(p), n); complete || e != api.ErrRange {
				t.Errorf("Cut at %d: %v, %v", n, complete, e)
			}
		}
		holds(t, l, r, p)
	}
	// At 0 nothing is written: it is not torn, and goes on.
	l := journal.New()
	cuts(t, l, "a", 0, false)
	cuts(t, l, "a", 0, false)
	holds(t, l, "")
	appends(t, l, "a")
	cuts(t, l, "b", 0, false)
	holds(t, l, recordOf("a"), "a")
	if complete, e := l.Cut(nil, 8); !complete || e != api.OK {
		t.Error(complete, e)
	}
	holds(t, l, recordsOf("a", ""), "a", "")
}

// TestErrorsInTheirOrder has calls to which all errors but ErrNil apply, or some.
func TestErrorsInTheirOrder(t *testing.T) {
	long := make([]byte, api.MaxRecord+1)
	torn := journal.Open([]byte("?"))
	refuses(t, torn, long, api.ErrTorn)
	refuses(t, torn, nil, api.ErrTorn)
	refuses(t, journal.New(), long, api.ErrLong)
	refuses(t, nil, long, api.ErrNil)
	refuses(t, nil, nil, api.ErrNil)
}

func TestMend(t *testing.T) {
	good := recordsOf("a", "bc")
	for _, tail := range []string{"", "x", "\x00\x00", recordOf("d")[:8], recordOf("d")[:8] + "e" + recordOf("f")} {
		for _, held := range []string{"", good} {
			var payloads []string
			if held != "" {
				payloads = []string{"a", "bc"}
			}
			l := journal.Open([]byte(held + tail))
			holds(t, l, held+tail, payloads...)
			if n := l.Mend(); n != len(tail) {
				t.Errorf("Mend: %d, want %d", n, len(tail))
			}
			holds(t, l, held, payloads...)
			if n := l.Mend(); n != 0 {
				t.Errorf("Mend, again: %d", n)
			}
			appends(t, l, "new")
			holds(t, l, held+recordOf("new"), append(slices.Clone(payloads), "new")...)
			cuts(t, l, "more", 5, false)
			if n := l.Mend(); n != 5 {
				t.Errorf("Mend behind a cut: %d", n)
			}
			holds(t, l, held+recordOf("new"), append(slices.Clone(payloads), "new")...)
		}
	}
}

func TestOpen(t *testing.T) {
	holds(t, journal.Open(nil), "")
	holds(t, journal.Open([]byte{}), "")
	l := journal.Open(nil)
	appends(t, l, "a")
	holds(t, l, recordOf("a"), "a")
	l = journal.Open(l.Bytes())
	appends(t, l, "b")
	holds(t, l, recordsOf("a", "b"), "a", "b")
}

func TestNil(t *testing.T) {
	var l *journal.Log
	holds(t, l, "")
	refuses(t, l, []byte("a"), api.ErrNil)
	if l.Mend() != 0 || l.Fork() != nil {
		t.Error(l.Mend(), l.Fork())
	}
	if p, end, e := journal.Read(nil); len(p) != 0 || end != 0 || e != api.OK {
		t.Error(p, end, e)
	}
}
