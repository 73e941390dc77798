package wire_test

import (
	"bytes"
	"encoding/binary"
	"fmt"
	"math/rand"
	"slices"
	"strings"
	"testing"

	"purlin/api"
	"purlin/term"
	"purlin/wire"
)

// named are the parts of each message, by the chapter's words.
func named(tag api.Tag) []string {
	words := map[api.Tag]string{
		api.Read: "Var Credit", api.Value: "Var Term Credit", api.Ship: "Goal Term Credit", api.Add: "Var Count", api.Release: "Var Count", api.Return: "Count Flags Credit",
	}
	return strings.Fields(words[tag])
}

// slowBytes writes a right message by the chapter's words, with the library's numbers.
func slowBytes(m api.Message) []byte {
	b := []byte{byte(m.Tag)}
	for _, part := range named(m.Tag) {
		switch part {
		case "Var":
			b = slowName(b, m.Var)
		case "Goal":
			b = slowName(b, m.Goal)
		case "Term":
			b = slowTerm(b, m.Term)
		case "Count":
			b = binary.AppendUvarint(b, uint64(m.Count))
		case "Flags":
			b = binary.AppendUvarint(b, uint64(m.Flags))
		case "Credit":
			b = binary.AppendUvarint(b, uint64(m.Credit.Whole))
			b = binary.AppendUvarint(b, uint64(len(m.Credit.Bits)))
			for i, bit := range append([]int{0}, m.Credit.Bits...)[:len(m.Credit.Bits)] {
				b = binary.AppendUvarint(b, uint64(m.Credit.Bits[i]-bit))
			}
		}
	}
	return b
}

func slowName(b []byte, n api.Name) []byte {
	return binary.AppendUvarint(append(b, byte(n.Node)), uint64(n.Number))
}

func slowTerm(b []byte, t api.Term) []byte {
	b = binary.AppendUvarint(b, uint64(len(t)))
	for _, c := range t {
		b = append(b, byte(c.Kind))
		switch c.Kind {
		case api.Int:
			b = binary.AppendVarint(b, int64(c.N))
		case api.Atom:
			b = append(binary.AppendUvarint(b, uint64(len(c.Text))), c.Text...)
		case api.Struct:
			b = append(append(binary.AppendUvarint(b, uint64(len(c.Text))), c.Text...), byte(c.N))
		case api.Var:
			b = slowName(b, c.Var)
		}
	}
	return b
}

// slow reads by the chapter's words; what is wrong first is thrown as a place, with a word for what it is.
type slow struct {
	b  []byte
	at int
}

type wrong struct {
	at   int
	what string
}

func (s *slow) one() int {
	if s.at == len(s.b) {
		panic(wrong{s.at, "end"})
	}
	s.at++
	return int(s.b[s.at-1])
}

func (s *slow) number(what string, least, most int) int {
	at, first := s.at, s.b[s.at:min(s.at+6, len(s.b))]
	last := slices.IndexFunc(first, func(c byte) bool { return c < 128 })
	if last < 0 && len(first) < 6 {
		panic(wrong{len(s.b), "end"})
	}
	if last < 0 {
		panic(wrong{at, "number of many bytes"})
	}
	n, size := binary.Uvarint(first)
	if len(binary.AppendUvarint(nil, n)) != size {
		panic(wrong{at, "number not short"})
	}
	if n > 1<<40 {
		panic(wrong{at, "number above 2^40"})
	}
	if n < uint64(least) || n > uint64(most) {
		panic(wrong{at, what})
	}
	s.at += size
	return int(n)
}

func (s *slow) name() api.Name {
	node := s.one()
	if node >= api.MaxNodes {
		panic(wrong{s.at - 1, "node"})
	}
	return name(node, s.number("number of a name", 0, great))
}

func isSign(s string) bool {
	return slices.Contains([]string{"=", ":=", "@", "+", "-", "*", "<", "=<", ">", ">=", "=:=", "=\\="}, s)
}

func (s *slow) text() string {
	at := s.at
	n := s.number("length of a text", 1, api.MaxName)
	if s.at+n > len(s.b) {
		panic(wrong{len(s.b), "end"})
	}
	x := string(s.b[s.at : s.at+n])
	if !term.IsName(x) && !isSign(x) {
		panic(wrong{at, "text"})
	}
	s.at += n
	return x
}

func (s *slow) cell() (c api.Cell) {
	at := s.at
	switch c.Kind = api.Kind(s.one()); c.Kind {
	case api.Int:
		n := s.number("", 0, 1<<40)
		if n > 1<<32 {
			panic(wrong{at, "cell of a number"})
		}
		c.N = n / 2
		if n%2 == 1 {
			c.N = -n/2 - 1
		}
	case api.Atom:
		if c.Text = s.text(); isSign(c.Text) {
			panic(wrong{at, "atom that is a sign"})
		}
	case api.Struct:
		c.Text = s.text()
		if c.N = s.one(); c.N < 1 || c.N > api.MaxArity || isSign(c.Text) && c.N != 2 {
			panic(wrong{at, "arity"})
		}
	case api.Var:
		c.Var = s.name()
	default:
		panic(wrong{at, "kind"})
	}
	return c
}

// term holds each cell, when it is read, against all that may follow: so many cells as are left must be able to be what it and those ahead of it still need.
func (s *slow) term() (t api.Term) {
	n := s.number("cells", 1, api.MaxCells)
	for len(t) < n {
		at := s.at
		t = append(t, s.cell())
		need := 1
		for _, c := range t {
			need--
			if c.Kind == api.Struct {
				need += c.N
			}
		}
		if need > n-len(t) {
			panic(wrong{at, "no room"})
		}
		if need == 0 && n > len(t) {
			panic(wrong{at, "more cells"})
		}
	}
	return t
}

func (s *slow) amount() (a api.Amount) {
	at := s.at
	a.Whole = s.number("whole", 0, great)
	n := s.number("how many bits", 0, mostBit)
	if a.Whole == 0 && n == 0 {
		panic(wrong{at, "zero"})
	}
	sum := 0
	for range n {
		at := s.at
		if sum += s.number("bit", 1, mostBit); sum > mostBit {
			panic(wrong{at, "great bit"})
		}
		a.Bits = append(a.Bits, sum)
	}
	return a
}

func (s *slow) message() (m api.Message) {
	m.Tag = api.Tag(s.one())
	if len(named(m.Tag)) == 0 {
		panic(wrong{0, "tag"})
	}
	for _, part := range named(m.Tag) {
		switch part {
		case "Var":
			m.Var = s.name()
		case "Goal":
			m.Goal = s.name()
		case "Term":
			m.Term = s.term()
		case "Count":
			limits := map[api.Tag][2]int{api.Add: {0, 3}, api.Release: {1, great}, api.Return: {0, great}}[m.Tag]
			m.Count = s.number("count", limits[0], limits[1])
		case "Flags":
			m.Flags = s.number("flags", 0, 3)
		case "Credit":
			m.Credit = s.amount()
		}
	}
	return m
}

// slowly reads all of the bytes; and what is wrong, if something is.
func slowly[T any](b []byte, read func(*slow) T) (x T, w wrong) {
	defer func() {
		if r := recover(); r != nil {
			var none T
			x, w = none, r.(wrong)
		}
	}()
	s := &slow{b: b}
	x = read(s)
	if s.at < len(b) {
		panic(wrong{s.at, "more bytes"})
	}
	return x, w
}

// holdDecode holds what Decode and DecodeTerm tell of bytes against the slow versions; it tells what was wrong with either.
func holdDecode(t *testing.T, b []byte) (string, string) {
	t.Helper()
	m, e, at := wire.Decode(b)
	want, w := slowly(b, (*slow).message)
	if !same(m, want) || at != w.at || (e == api.OK) != (w.what == "") || e != api.OK && e != api.ErrBytes {
		t.Fatalf("Decode(%s): %v, %v, %d; want %v, %v", short(b), m, e, at, want, w)
	}
	if e == api.OK {
		if again, e := wire.Encode(m); e != api.OK || !bytes.Equal(again, b) || !wire.Right(m) {
			t.Fatalf("Encode(%v): %v, %v; want %s", m, again, e, short(b))
		}
	}
	x, e, at := wire.DecodeTerm(b)
	wantTerm, v := slowly(b, (*slow).term)
	if !term.Equal(x, wantTerm) || at != v.at || (e == api.OK) != (v.what == "") || e != api.OK && e != api.ErrBytes {
		t.Fatalf("DecodeTerm(%s): %v, %v, %d; want %v, %v", short(b), x, e, at, wantTerm, v)
	}
	if e == api.OK {
		if again, e := wire.EncodeTerm(x); e != api.OK || !bytes.Equal(again, b) {
			t.Fatalf("EncodeTerm(%v): %v, %v; want %s", x, again, e, short(b))
		}
	}
	return w.what, v.what
}

func pick[T any](r *rand.Rand, l ...T) T { return l[r.Intn(len(l))] }

// size is a number up to most, small ones and the edges more often than others.
func size(r *rand.Rand, most int) int {
	return min(most, pick(r, 0, 1, 2, 3, 127, 128, 129, 16383, 16384, max(most-1, 0), most, r.Intn(most+1), r.Intn(10)))
}

func someName(r *rand.Rand) api.Name { return name(r.Intn(api.MaxNodes), size(r, great)) }

func someTerm(r *rand.Rand, depth int) api.Term {
	k := r.Intn(5)
	if depth == 0 {
		k = r.Intn(3)
	}
	switch k {
	case 0:
		return api.Term{number(pick(r, 1, -1) * size(r, api.MaxNumber))}
	case 1:
		return api.Term{atom(pick(r, "a", "nil", "abcdefghijklmnop", "aB_9"))}
	case 2:
		return api.Term{{Kind: api.Var, Var: someName(r)}}
	}
	t := api.Term{structure(pick(r, "f", "=", "=\\=", "@", "abcdefghijklmnop", ":="), 2)}
	if term.IsName(t[0].Text) {
		t[0].N = 1 + r.Intn(pick(r, 2, 3, api.MaxArity))
	}
	for range t[0].N {
		t = append(t, someTerm(r, depth-1)...)
	}
	return t
}

func someAmount(r *rand.Rand) (a api.Amount) {
	if r.Intn(3) > 0 {
		a.Whole = 1 + size(r, great-1)
	}
	for last := 0; last < mostBit && (r.Intn(3) > 0 || a.Whole == 0 && last == 0); {
		last += 1 + size(r, mostBit-last-1)
		a.Bits = append(a.Bits, last)
	}
	return a
}

func someMessage(r *rand.Rand) api.Message {
	m := api.Message{Tag: api.Tag(1 + r.Intn(6))}
	for _, part := range named(m.Tag) {
		switch part {
		case "Var":
			m.Var = someName(r)
		case "Goal":
			m.Goal = someName(r)
		case "Term":
			for m.Term = someTerm(r, 3); len(m.Term) > api.MaxCells; m.Term = someTerm(r, 3) {
			}
		case "Count":
			m.Count = size(r, great)
			if m.Tag == api.Add {
				m.Count = r.Intn(api.MaxNodes)
			}
			if m.Tag == api.Release {
				m.Count = max(m.Count, 1)
			}
		case "Flags":
			m.Flags = r.Intn(4)
		case "Credit":
			m.Credit = someAmount(r)
		}
	}
	return m
}

// TestThereAndBack is P11.4 (E9), and Encode's bytes against the slow ones.
func TestThereAndBack(t *testing.T) {
	r := rand.New(rand.NewSource(1))
	for range 4000 {
		m := someMessage(r)
		thereAndBack(t, m, slowBytes(m))
		if len(m.Term) > 0 {
			termThereAndBack(t, m.Term, slowTerm(nil, m.Term))
			if !slices.Equal(wire.Carries(m), term.Vars(m.Term)) {
				t.Fatal(m, wire.Carries(m))
			}
		}
	}
}

// TestCutAnywhere: of a message's bytes no front is a message (P11.5), and the place is that at which they end.
func TestCutAnywhere(t *testing.T) {
	r := rand.New(rand.NewSource(2))
	for range 600 {
		m := someMessage(r)
		b, _ := wire.Encode(m)
		for n := range b {
			isNone(t, b[:n:n], n)
		}
		isNone(t, append(b, byte(r.Intn(256))), len(b))
		if len(m.Term) > 0 {
			b, _ := wire.EncodeTerm(m.Term)
			for n := range b {
				isNoTerm(t, b[:n], n)
			}
			isNoTerm(t, append(b, byte(r.Intn(256))), len(b))
		}
	}
}

// TestNoneBeginsWithAnother is P11.5 over all pairs of many messages.
func TestNoneBeginsWithAnother(t *testing.T) {
	r := rand.New(rand.NewSource(3))
	var l []string
	for range 3000 {
		b, _ := wire.Encode(someMessage(r))
		l = append(l, string(b))
	}
	slices.Sort(l)
	l = slices.Compact(l)
	// Those that begin with a text stand right behind it, when they are sorted.
	for i := range l[1:] {
		if strings.HasPrefix(l[i+1], l[i]) {
			t.Errorf("%q begins with %q", l[i+1], l[i])
		}
	}
	if len(l) < 1000 {
		t.Error(len(l))
	}
}

// change changes bytes by chance: another byte, one more, one less, a piece of others, an end.
func change(r *rand.Rand, b, other []byte) []byte {
	b = slices.Clone(b)
	for range 1 + r.Intn(3) {
		at := r.Intn(len(b) + 1)
		switch r.Intn(7) {
		case 0:
			b = slices.Insert(b, at, pick[byte](r, 0, 1, 2, 3, 4, 127, 128, 129, 255, byte(r.Intn(256))))
		case 1:
			b = slices.Delete(b, at, min(at+1, len(b)))
		case 2:
			b = b[:at]
		case 3:
			from := r.Intn(len(other) + 1)
			b = slices.Concat(b[:at], other[from:min(len(other), from+r.Intn(6))], b[at:])
		case 4:
			b = slices.Concat(b[:at], bytes.Repeat([]byte{pick[byte](r, 128, 255, 129)}, r.Intn(9)), b[at:])
		default:
			if at < len(b) {
				b[at] = pick[byte](r, 0, 1, 2, 3, 4, 5, 8, 9, 127, 128, b[at]+1, b[at]-1, b[at]|128, byte(r.Intn(256)))
			}
		}
	}
	return b
}

var faults = []string{
	"end", "number not short", "number of many bytes", "number above 2^40", "node", "number of a name", "length of a text", "text", "cell of a number",
	"atom that is a sign", "arity", "kind", "cells", "no room", "more cells",
}

// TestChangedBytes holds Decode against the slow version over bytes that were changed: each fault comes up.
func TestChangedBytes(t *testing.T) {
	r := rand.New(rand.NewSource(4))
	count := map[string]int{}
	countTerm := map[string]int{}
	for range 150000 {
		a, b := someMessage(r), someMessage(r)
		one, other := slowBytes(a), slowBytes(b)
		if r.Intn(2) == 0 && len(a.Term) > 0 {
			one = slowTerm(nil, a.Term)
		}
		if len(one) > 200 {
			continue
		}
		w, v := holdDecode(t, change(r, one, other))
		count[w]++
		countTerm[v]++
	}
	for _, what := range append([]string{"", "tag", "whole", "how many bits", "zero", "bit", "great bit", "count", "flags", "more bytes"}, faults...) {
		if count[what] < 5 {
			t.Errorf("%q came up %d times alone", what, count[what])
		}
	}
	for _, what := range append([]string{"", "more bytes"}, faults...) {
		if countTerm[what] < 5 {
			t.Errorf("%q came up %d times alone in terms", what, countTerm[what])
		}
	}
}

// TestAllShortBytes goes through all rows of up to six bytes of a few.
func TestAllShortBytes(t *testing.T) {
	few := []byte{0, 1, 2, 3, 4, 128, 'f'}
	var all func(b []byte)
	good := 0
	all = func(b []byte) {
		if w, _ := holdDecode(t, b); w == "" {
			good++
		}
		if len(b) == 6 {
			return
		}
		for _, c := range few {
			all(append(b, c))
		}
	}
	all(make([]byte, 0, 6))
	if good < 100 {
		t.Error(good)
	}
}

// slowRight is when a message is right, by the chapter's words.
func slowRight(m api.Message) bool {
	left := m
	for _, part := range named(m.Tag) {
		ok := false
		switch part {
		case "Var":
			ok, left.Var = isName(m.Var), api.Name{}
		case "Goal":
			ok, left.Goal = isName(m.Goal), api.Name{}
		case "Term":
			ok, left.Term = term.Global(m.Term) && !slices.ContainsFunc(m.Term, func(c api.Cell) bool { return c.Var.Number > great }), nil
		case "Count":
			ok, left.Count = m.Count >= 0 && m.Count <= great && (m.Tag != api.Add || m.Count < 4) && (m.Tag != api.Release || m.Count > 0), 0
		case "Flags":
			ok, left.Flags = m.Flags >= 0 && m.Flags <= 3, 0
		case "Credit":
			ok, left.Credit = isCredit(m.Credit), api.Amount{}
		}
		if !ok {
			return false
		}
	}
	return len(named(m.Tag)) > 0 && same(left, api.Message{Tag: m.Tag})
}

func isName(n api.Name) bool {
	return n.Node >= 0 && n.Node <= 3 && n.Number >= 0 && n.Number <= great
}

func isCredit(a api.Amount) bool {
	sorted := slices.Compact(slices.Sorted(slices.Values(a.Bits)))
	return a.Whole >= 0 && a.Whole <= great && a.Whole+len(a.Bits) > 0 && slices.Equal(sorted, a.Bits) &&
		(len(sorted) == 0 || sorted[0] >= 1 && sorted[len(sorted)-1] <= mostBit)
}

// spoil changes one thing of a message by chance.
func spoil(r *rand.Rand, m api.Message) api.Message {
	odd := pick(r, 0, -1, 1, 3, 4, great, great+1, 1<<40, -1<<62)
	switch r.Intn(10) {
	case 0:
		m.Tag = api.Tag(r.Intn(9))
	case 1:
		m.Var = name(odd, r.Intn(2))
	case 2:
		m.Goal = name(r.Intn(2), odd)
	case 3:
		m.Term = pick(r, append(wrongTerms(), someTerm(r, 1))...)
	case 4:
		m.Count = odd
	case 5:
		m.Flags = odd
	case 6:
		m.Credit.Whole = odd
	case 7:
		m.Credit.Bits = append(slices.Clone(m.Credit.Bits), odd)
	case 8:
		m.Credit = api.Amount{}
	}
	return m
}

// TestRightByItsWords holds Right and Encode against the slow version over messages that were spoiled.
func TestRightByItsWords(t *testing.T) {
	r := rand.New(rand.NewSource(5))
	good := 0
	const all = 40000
	for range all {
		m := spoil(r, spoil(r, someMessage(r)))
		want := slowRight(m)
		if wire.Right(m) != want {
			t.Fatalf("Right(%v): want %v", m, want)
		}
		if want {
			good++
			thereAndBack(t, m, slowBytes(m))
		} else if b, e := wire.Encode(m); e != api.ErrForm || len(b) > 0 {
			t.Fatalf("Encode(%v): %v, %v", m, b, e)
		}
	}
	if good < all/20 || good > all*19/20 {
		t.Error(good)
	}
}

// roomyMessage has room behind the ends of its lists that is marked.
func roomyMessage(m api.Message) api.Message {
	m.Term = append(append(make(api.Term, 0, len(m.Term)+3), m.Term...), api.Cell{Kind: 77}, api.Cell{Kind: 78}, api.Cell{Kind: 79})[:len(m.Term)]
	m.Credit.Bits = append(append(make([]int, 0, len(m.Credit.Bits)+2), m.Credit.Bits...), -77, -78)[:len(m.Credit.Bits)]
	return m
}

func wholeMessage(m api.Message) string {
	return fmt.Sprint(m, m.Term[:cap(m.Term)], m.Credit.Bits[:cap(m.Credit.Bits)])
}

// TestNothingIsShared is P3.
func TestNothingIsShared(t *testing.T) {
	r := rand.New(rand.NewSource(6))
	for range 2000 {
		m := roomyMessage(spoil(r, someMessage(r)))
		before := wholeMessage(m)
		b, e := wire.Encode(m)
		x, _ := wire.EncodeTerm(m.Term)
		carried := wire.Carries(m)
		want := string(b)
		clear(x[:cap(x)])
		clear(carried[:cap(carried)])
		if wholeMessage(m) != before || string(b) != want {
			t.Fatalf("%s, was %s", wholeMessage(m), before)
		}
		if e != api.OK {
			continue
		}
		in := append(b, 7, 7, 7)[:len(b)]
		held := string(in[:cap(in)])
		got, _, _ := wire.Decode(in)
		again, _, _ := wire.Decode(in)
		if string(in[:cap(in)]) != held {
			t.Fatal("what was handed in is changed")
		}
		clear(in[:cap(in)])
		clear(again.Term[:cap(again.Term)])
		clear(again.Credit.Bits[:cap(again.Credit.Bits)])
		if !same(got, m) {
			t.Fatalf("%v, want %v", got, m)
		}
		in, _ = wire.EncodeTerm(m.Term)
		one, _, _ := wire.DecodeTerm(in)
		clear(in[:cap(in)])
		if !term.Equal(one, m.Term) {
			t.Fatal(one, m.Term)
		}
	}
}

func FuzzDecode(f *testing.F) {
	for _, m := range right() {
		f.Add(slowBytes(m))
		f.Add(slowTerm(nil, m.Term))
	}
	for _, s := range append(slices.Clone(wrongBytes), wrongTermBytes...) {
		b, _ := cutAtBar(s)
		f.Add(b)
	}
	f.Fuzz(func(t *testing.T, b []byte) {
		if len(b) <= api.MaxMessage {
			holdDecode(t, b)
		}
	})
}
