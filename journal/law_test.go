package journal_test

import (
	"fmt"
	"hash/fnv"
	"math/rand"
	"slices"
	"testing"

	"purlin/api"
	"purlin/journal"
)

// slowRead is what a disk holds by the chapter's words: of all payloads that may be at a place, the one whose record stands there.
func slowRead(b string) (payloads []string, end int) {
	for {
		found := false
		for n := 0; n <= len(b)-end-8 && n <= api.MaxRecord && !found; n++ {
			payload := b[end+8 : end+8+n]
			if found = b[end:end+8+n] == recordOf(payload); found {
				payloads, end = append(payloads, payload), end+8+n
			}
		}
		if !found {
			return payloads, end
		}
	}
}

// slow is a log by the chapter's words: its bytes alone.
type slow struct{ b string }

func (s *slow) torn() bool {
	_, end := slowRead(s.b)
	return end < len(s.b)
}

func (s *slow) cut(payload []byte, n int) (bool, api.Errno) {
	switch {
	case s.torn():
		return false, api.ErrTorn
	case len(payload) > api.MaxRecord:
		return false, api.ErrLong
	case n < 0:
		return false, api.ErrRange
	}
	r := recordOf(string(payload))
	s.b += r[:min(n, len(r))]
	return n >= len(r), api.OK
}

func somePayload(r *rand.Rand) []byte {
	n := r.Intn(6)
	if r.Intn(20) == 0 {
		n = api.MaxRecord + 1
	}
	b := make([]byte, n)
	r.Read(b)
	return b
}

// someBytes are records, some of them hurt, and other bytes.
func someBytes(r *rand.Rand) string {
	s := ""
	for range r.Intn(4) {
		payload := make([]byte, r.Intn(6))
		r.Read(payload)
		record := []byte(recordOf(string(payload)))
		if r.Intn(4) == 0 {
			record[r.Intn(len(record))] ^= byte(1 << r.Intn(8))
		}
		if r.Intn(4) == 0 {
			record = record[:r.Intn(len(record)+1)]
		}
		s += string(record)
	}
	return s
}

// do does one call, by chance, on both; it tells which.
func do(t *testing.T, r *rand.Rand, l *journal.Log, s *slow) string {
	t.Helper()
	p := somePayload(r)
	switch r.Intn(4) {
	case 0:
		e := l.Append(p)
		if _, want := s.cut(p, len(p)+8); e != want {
			t.Fatalf("Append of %d bytes: %v, want %v", len(p), e, want)
		}
		clear(p)
		return fmt.Sprint("append ", e)
	case 1:
		_, end := slowRead(s.b)
		want := len(s.b) - end
		s.b = s.b[:end]
		if n := l.Mend(); n != want {
			t.Fatalf("Mend: %d, want %d", n, want)
		}
		return fmt.Sprint("mend ", want > 0)
	}
	n := r.Intn(len(p)%100+12) - 2
	complete, e := l.Cut(p, n)
	if want, wantE := s.cut(p, n); complete != want || e != wantE {
		t.Fatalf("Cut of %d bytes at %d: %v, %v; want %v, %v", len(p), n, complete, e, want, wantE)
	}
	clear(p)
	return fmt.Sprint("cut ", complete, " ", e)
}

// holds holds all that a log tells against its bytes.
func (s *slow) holds(t *testing.T, l *journal.Log) {
	t.Helper()
	payloads, _ := slowRead(s.b)
	holds(t, l, s.b, payloads...)
}

// TestRunsByTheirWords is P14.1 to P14.3, and P14.5, over runs of calls.
func TestRunsByTheirWords(t *testing.T) {
	count := map[string]int{}
	for seed := range 200 {
		r := rand.New(rand.NewSource(int64(seed)))
		s := &slow{someBytes(r)}
		l := journal.Open([]byte(s.b))
		for range 30 {
			count[do(t, r, l, s)]++
			s.holds(t, l)
			if t.Failed() {
				t.Fatal(seed)
			}
		}
		reads(t, s.b, texts(l.Payloads())...)
	}
	for _, what := range []string{
		fmt.Sprint("append ", api.OK), fmt.Sprint("append ", api.ErrTorn), fmt.Sprint("append ", api.ErrLong),
		fmt.Sprint("cut true ", api.OK), fmt.Sprint("cut false ", api.OK), fmt.Sprint("cut false ", api.ErrTorn), fmt.Sprint("cut false ", api.ErrLong),
		fmt.Sprint("cut false ", api.ErrRange), "mend true", "mend false",
	} {
		if count[what] < 20 {
			t.Errorf("%s came up %d times alone", what, count[what])
		}
	}
}

// TestForksGoTheirOwnWay is P4: many logs, each forked from another one, hold what they must.
func TestForksGoTheirOwnWay(t *testing.T) {
	for seed := range 60 {
		r := rand.New(rand.NewSource(int64(1000 + seed)))
		b := someBytes(r)
		logs, all := []*journal.Log{journal.Open([]byte(b))}, []*slow{{b}}
		for range 150 {
			i := r.Intn(len(logs))
			if r.Intn(10) == 0 && len(logs) < 10 {
				logs, all = append(logs, logs[i].Fork()), append(all, &slow{all[i].b})
			}
			do(t, r, logs[i], all[i])
		}
		for i := range logs {
			all[i].holds(t, logs[i])
		}
	}
}

// TestCutAnywhere is P14.4, P14.6 and E8 of logs: of records one behind the other those are read that are complete by the cut.
func TestCutAnywhere(t *testing.T) {
	for seed := range 100 {
		r := rand.New(rand.NewSource(int64(seed)))
		var payloads []string
		var ends []int
		l, all := journal.New(), ""
		for range 1 + r.Intn(8) {
			p := make([]byte, r.Intn(20))
			r.Read(p)
			if r.Intn(3) == 0 { // a payload may be a record itself
				p = []byte(recordOf(string(p)))
			}
			if e := l.Append(p); e != api.OK {
				t.Fatal(e)
			}
			payloads, all = append(payloads, string(p)), all+recordOf(string(p))
			ends = append(ends, len(all))
		}
		if string(l.Bytes()) != all {
			t.Fatal("what was appended is not what stands there")
		}
		for n := range len(all) + 1 {
			complete := 0
			for complete < len(ends) && ends[complete] <= n {
				complete++
			}
			reads(t, all[:n], payloads[:complete]...)
			again := journal.Open([]byte(all[:n]))
			again.Mend()
			for _, p := range payloads[complete:] {
				appends(t, again, p)
			}
			holds(t, again, all, payloads...)
		}
	}
}

// TestWrittenAnew is P14.6 of bytes of all kinds.
func TestWrittenAnew(t *testing.T) {
	count := map[api.Errno]int{}
	for seed := range 3000 {
		r := rand.New(rand.NewSource(int64(seed)))
		count[anew(t, []byte(someBytes(r)))]++
	}
	if count[api.OK] < 300 || count[api.ErrTorn] < 300 {
		t.Error(count)
	}
}

func anew(t *testing.T, b []byte) api.Errno {
	t.Helper()
	payloads, end, e := journal.Read(b)
	var w []byte
	l := journal.New()
	for _, p := range payloads {
		r, wrong := journal.Record(p)
		if wrong != api.OK || l.Append(p) != api.OK {
			t.Fatal(wrong)
		}
		w = append(w, r...)
	}
	if end < 0 || end > len(b) || string(w) != string(b[:end]) || string(l.Bytes()) != string(w) || (e == api.ErrTorn) != (end < len(b)) || e != api.OK && e != api.ErrTorn {
		t.Fatalf("Read of %x: %x, %d, %v", b, payloads, end, e)
	}
	return e
}

// TestEachByteOfAPayload is P14.7: each of its bytes changed to each other one.
func TestEachByteOfAPayload(t *testing.T) {
	for _, p := range []string{"a", "\x00", "\xff\xff\xff", "some payload", "\x00\x00\x00\x00\x81\x1c\x9d\xc5"} {
		r := recordOf(p)
		for at := range len(p) {
			for change := 1; change < 256; change++ {
				b := []byte(recordOf("x") + r + recordOf("y"))
				b[len(recordOf("x"))+8+at] ^= byte(change)
				got, end, e := journal.Read(b)
				if len(got) != 1 || string(got[0]) != "x" || end != 9 || e != api.ErrTorn {
					t.Fatalf("%q, byte %d changed by %d: %q, %d, %v", p, at, change, got, end, e)
				}
			}
		}
	}
}

// TestEachByteOfALongPayload is P14.7 where the sum goes on for long.
func TestEachByteOfALongPayload(t *testing.T) {
	p := make([]byte, api.MaxRecord)
	rand.New(rand.NewSource(1)).Read(p)
	r, _ := journal.Record(p)
	for _, at := range []int{0, 1, 2, 1000, 65535, 65536, len(p) - 2, len(p) - 1} {
		for bit := range 8 {
			r[8+at] ^= 1 << bit
			if got, end, e := journal.Read(r); len(got) != 0 || end != 0 || e != api.ErrTorn {
				t.Errorf("byte %d, bit %d: %d payloads, %d, %v", at, bit, len(got), end, e)
			}
			r[8+at] ^= 1 << bit
		}
	}
	reads(t, string(r), string(p))
}

// TestUnlikeBytesHaveUnlikeSums is why P14.7 holds: whatever stands ahead and behind, bytes that differ at one place have other sums.
func TestUnlikeBytesHaveUnlikeSums(t *testing.T) {
	for seed := range 20 {
		r := rand.New(rand.NewSource(int64(seed)))
		b := make([]byte, 1+r.Intn(50))
		r.Read(b)
		at, sums := r.Intn(len(b)), map[uint32]int{}
		for c := range 256 {
			b[at] = byte(c)
			h := fnv.New32a()
			h.Write(b)
			if journal.Sum(b) != h.Sum32() {
				t.Fatal(b)
			}
			sums[journal.Sum(b)]++
		}
		if len(sums) != 256 {
			t.Error(seed, len(sums))
		}
	}
}

// roomy are bytes with room behind their end that is marked.
func roomy(text string) []byte {
	return append(append(make([]byte, 0, len(text)+3), text...), 77, 78, 79)[:len(text)]
}

func wipe(b []byte) {
	for i := range b[:cap(b)] {
		b[:cap(b)][i] = 99
	}
}

// unharmed holds that what was handed in is as roomy made it, and wipes it.
func unharmed(t *testing.T, b []byte, text string) {
	t.Helper()
	if string(b[:cap(b)]) != text+"MNO" {
		t.Errorf("%q was changed to %q", text, b[:cap(b)])
	}
	wipe(b)
}

// wipeEach wipes payloads one by one: the others stay as they are.
func wipeEach(t *testing.T, l [][]byte) {
	t.Helper()
	for i := range l {
		rest := fmt.Sprint(texts(l[:i]), texts(l[i+1:]))
		wipe(l[i])
		if fmt.Sprint(texts(l[:i]), texts(l[i+1:])) != rest {
			t.Error("an answer lies in another one")
		}
	}
	clear(l[:cap(l)])
}

// TestNothingIsShared is P3: what is handed in stays, spare room too, and is not kept; what is answered is the caller's.
func TestNothingIsShared(t *testing.T) {
	all := recordsOf("abc", "", "de") + "tail"
	b := roomy(all)
	payloads, _, _ := journal.Read(b)
	wipeEach(t, payloads)
	l := journal.Open(b)
	journal.Sum(b)
	unharmed(t, b, all)
	holds(t, l, all, "abc", "", "de")
	f := l.Fork()
	for _, x := range []*journal.Log{l, f, l, f} {
		wipe(x.Bytes())
		wipeEach(t, x.Payloads())
		holds(t, x, all, "abc", "", "de")
	}
	l.Mend()
	for _, p := range []string{"fg", "", "h"} {
		b := roomy(p)
		r, _ := journal.Record(b)
		wipe(r)
		if e := l.Append(b); e != api.OK {
			t.Error(e)
		}
		unharmed(t, b, p)
	}
	b = roomy("ijk")
	cuts(t, l, "ijk", 9, false)
	l.Mend()
	if complete, e := l.Cut(b, 9); complete || e != api.OK {
		t.Error(complete, e)
	}
	unharmed(t, b, "ijk")
	holds(t, l, recordsOf("abc", "", "de", "fg", "", "h")+recordOf("ijk")[:9], "abc", "", "de", "fg", "", "h")
	holds(t, f, all, "abc", "", "de")
	long := roomy(string(make([]byte, api.MaxRecord+1)))
	journal.Record(long)
	journal.New().Append(long)
	unharmed(t, long, string(make([]byte, api.MaxRecord+1)))
}

// TestForkedTails is P4 where bytes would share their room: both are mended, and written to behind.
func TestForkedTails(t *testing.T) {
	for n := range 40 {
		p := string(make([]byte, n))
		a := journal.Open([]byte(recordOf(p) + "tail, longer than what comes"))
		b := a.Fork()
		a.Mend()
		c := a.Fork()
		appends(t, a, "A")
		appends(t, c, "C")
		d := a.Fork()
		appends(t, a, "AA")
		appends(t, d, "DD")
		holds(t, b, recordOf(p)+"tail, longer than what comes", p)
		holds(t, a, recordsOf(p, "A", "AA"), p, "A", "AA")
		holds(t, c, recordsOf(p, "C"), p, "C")
		holds(t, d, recordsOf(p, "A", "DD"), p, "A", "DD")
		b.Mend()
		appends(t, b, "B")
		holds(t, b, recordsOf(p, "B"), p, "B")
		if got := texts(a.Fork().Payloads()); !slices.Equal(got, []string{p, "A", "AA"}) {
			t.Error(got)
		}
	}
}

// FuzzRead is P14.1, P14.6 and P1 of any bytes.
func FuzzRead(f *testing.F) {
	for _, s := range []string{"", "x", recordOf(""), recordsOf("a", "bc"), recordOf("a") + "\x00", recordOf("abc")[:9], "\x00\x02\x00\x00" + recordOf("")[4:], "\xff\xff\xff\xff\xff\xff\xff\xff\xff"} {
		f.Add([]byte(s))
	}
	f.Fuzz(func(t *testing.T, b []byte) {
		anew(t, b)
		payloads, _ := slowRead(string(b))
		reads(t, string(b), payloads...)
	})
}
