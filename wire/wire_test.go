package wire_test

import (
	"bytes"
	"fmt"
	"math"
	"slices"
	"strconv"
	"strings"
	"testing"

	"purlin/api"
	"purlin/term"
	"purlin/wire"
)

// The calls have the forms that chapter 11 lists.
var (
	_ func(api.Message) ([]byte, api.Errno)      = wire.Encode
	_ func([]byte) (api.Message, api.Errno, int) = wire.Decode
	_ func(api.Message) bool                     = wire.Right
	_ func(api.Term) ([]byte, api.Errno)         = wire.EncodeTerm
	_ func([]byte) (api.Term, api.Errno, int)    = wire.DecodeTerm
	_ func(api.Message) []api.Name               = wire.Carries
)

const (
	great   = 1<<31 - 1
	mostBit = 1 << 20
)

func name(node, number int) api.Name { return api.Name{Node: node, Number: number} }

func number(n int) api.Cell { return api.Cell{Kind: api.Int, N: n} }

func atom(s string) api.Cell { return api.Cell{Kind: api.Atom, Text: s} }

func structure(s string, n int) api.Cell { return api.Cell{Kind: api.Struct, Text: s, N: n} }

func variable(node, number int) api.Cell { return api.Cell{Kind: api.Var, Var: name(node, number)} }

func whole(n int) api.Amount { return api.Amount{Whole: n} }

func bits(l ...int) api.Amount { return api.Amount{Bits: l} }

// octets are bytes as the chapter writes them: numbers, and texts as they are.
func octets(s string) []byte {
	var b []byte
	for _, f := range strings.Fields(strings.ReplaceAll(s, ",", " ")) {
		if n, e := strconv.ParseUint(f, 10, 8); e == nil {
			b = append(b, byte(n))
		} else {
			b = append(b, f...)
		}
	}
	return b
}

func TestOctets(t *testing.T) {
	if got := octets("2, 3 1 f 1, 255 ab"); !bytes.Equal(got, []byte{2, 3, 1, 'f', 1, 255, 'a', 'b'}) {
		t.Fatal(got)
	}
}

// same tells whether two messages are: lists may be nil where they are empty.
func same(a, b api.Message) bool {
	return a.Tag == b.Tag && a.Var == b.Var && a.Goal == b.Goal && term.Equal(a.Term, b.Term) &&
		a.Count == b.Count && a.Flags == b.Flags && a.Credit.Whole == b.Credit.Whole && slices.Equal(a.Credit.Bits, b.Credit.Bits)
}

// right is one message of each tag that is.
func right() []api.Message {
	return []api.Message{
		{Tag: api.Read, Var: name(1, 300), Credit: whole(1)},
		{Tag: api.Value, Var: name(0, 1), Term: api.Term{structure("f", 1), number(-3)}, Credit: bits(1, 3)},
		{Tag: api.Ship, Goal: name(2, 128), Term: api.Term{structure("p", 2), variable(3, 0), atom("a")}, Credit: api.Amount{Whole: 2, Bits: []int{7}}},
		{Tag: api.Add, Var: name(2, 0), Count: 1},
		{Tag: api.Release, Var: name(0, 5), Count: 2},
		{Tag: api.Return, Count: 130, Flags: 3, Credit: whole(1)},
	}
}

// thereAndBack holds a message against its bytes.
func thereAndBack(t *testing.T, m api.Message, want []byte) {
	t.Helper()
	if !wire.Right(m) {
		t.Errorf("not right: %v", m)
	}
	if b, e := wire.Encode(m); e != api.OK || !bytes.Equal(b, want) {
		t.Errorf("Encode(%v): %v, %v; want %v", m, b, e, want)
	}
	if got, e, at := wire.Decode(want); e != api.OK || at != 0 || !same(got, m) {
		t.Errorf("Decode(%v): %v, %v, %d; want %v", want, got, e, at, m)
	}
}

func termThereAndBack(t *testing.T, x api.Term, want []byte) {
	t.Helper()
	if b, e := wire.EncodeTerm(x); e != api.OK || !bytes.Equal(b, want) {
		t.Errorf("EncodeTerm(%v): %v, %v; want %v", x, b, e, want)
	}
	if got, e, at := wire.DecodeTerm(want); e != api.OK || at != 0 || !term.Equal(got, x) {
		t.Errorf("DecodeTerm(%v): %v, %v, %d; want %v", want, got, e, at, x)
	}
}

func TestExamples(t *testing.T) {
	thereAndBack(t, api.Message{Tag: api.Read, Var: name(1, 300), Credit: whole(1)}, octets("1, 1, 172 2, 1 0"))
	thereAndBack(t, api.Message{Tag: api.Release, Var: name(0, 5), Count: 2}, octets("5, 0, 5, 2"))
	termThereAndBack(t, api.Term{structure("f", 1), number(-3)}, octets("2, 3 1 102 1, 1 5"))
}

func TestBytesOfEachMessage(t *testing.T) {
	want := []string{
		"1, 1 172 2, 1 0",
		"2, 0 1, 2 3 1 f 1 1 5, 0 2 1 2",
		"3, 2 128 1, 3 3 1 p 2 4 3 0 2 1 a, 2 1 7",
		"4, 2 0, 1",
		"5, 0 5, 2",
		"6, 130 1, 3, 1 0",
	}
	for i, m := range right() {
		thereAndBack(t, m, octets(want[i]))
	}
}

func TestBytesAtTheEdges(t *testing.T) {
	const top = "255 255 255 255 7" // 2^31 - 1
	for want, m := range map[string]api.Message{
		"1, 0 0, 0 1 1":                            {Tag: api.Read, Credit: bits(1)},
		"1, 3 " + top + ", " + top + " 0":          {Tag: api.Read, Var: name(3, great), Credit: whole(great)},
		"1, 0 127, 127 1 127":                      {Tag: api.Read, Var: name(0, 127), Credit: api.Amount{Whole: 127, Bits: []int{127}}},
		"1, 0 128 1, 128 1 1 128 1":                {Tag: api.Read, Var: name(0, 128), Credit: api.Amount{Whole: 128, Bits: []int{128}}},
		"1, 0 255 127, 128 128 1 1 128 128 64":     {Tag: api.Read, Var: name(0, 16383), Credit: api.Amount{Whole: 16384, Bits: []int{mostBit}}},
		"1, 0 0, 0 3 1 254 255 63 1":               {Tag: api.Read, Credit: bits(1, mostBit-1, mostBit)},
		"2, 3 " + top + ", 1 4 3 " + top + ", 1 0": {Tag: api.Value, Var: name(3, great), Term: api.Term{variable(3, great)}, Credit: whole(1)},
		"3, 3 " + top + ", 1 4 0 0, 1 0":           {Tag: api.Ship, Goal: name(3, great), Term: api.Term{variable(0, 0)}, Credit: whole(1)},
		"3, 0 0, 1 1 0, 1 0":                       {Tag: api.Ship, Term: api.Term{number(0)}, Credit: whole(1)},
		"4, 0 0, 0":                                {Tag: api.Add},
		"4, 3 0, 3":                                {Tag: api.Add, Var: name(3, 0), Count: 3},
		"5, 0 0, 1":                                {Tag: api.Release, Count: 1},
		"5, 0 0, " + top:                           {Tag: api.Release, Count: great},
		"6, 0, 0, 1 0":                             {Tag: api.Return, Credit: whole(1)},
		"6, " + top + ", 3, 0 1 1":                 {Tag: api.Return, Count: great, Flags: 3, Credit: bits(1)},
	} {
		thereAndBack(t, m, octets(want))
	}
}

func TestBytesOfTerms(t *testing.T) {
	for want, x := range map[string]api.Term{
		"1, 1 0":                     {number(0)},
		"1, 1 1":                     {number(-1)},
		"1, 1 2":                     {number(1)},
		"1, 1 127":                   {number(-64)},
		"1, 1 128 1":                 {number(64)},
		"1, 1 128 128 128 128 16":    {number(api.MaxNumber)},
		"1, 1 255 255 255 255 15":    {number(-api.MaxNumber)},
		"1, 1 254 255 255 255 15":    {number(api.MaxNumber - 1)},
		"1, 2 1 a":                   {atom("a")},
		"1, 2 16 abcdefghijklmnop":   {atom("abcdefghijklmnop")},
		"3, 3 1 = 2 1 0 1 0":         {structure("=", 2), number(0), number(0)},
		"3, 3 3 =\\= 2 1 0 2 1 b":    {structure("=\\=", 2), number(0), atom("b")},
		"3, 3 1 f 1 3 1 f 1 4 1 0":   {structure("f", 1), structure("f", 1), variable(1, 0)},
		"4, 3 1 f 2 3 1 g 1 1 2 1 4": {structure("f", 2), structure("g", 1), number(1), number(2)},
		"4, 3 1 f 2 1 2 3 1 g 1 1 4": {structure("f", 2), number(1), structure("g", 1), number(2)},
		"9, 3 1 f 8, 1 0 1 0 1 0 1 0 1 0 1 0 1 0 1 0": append(api.Term{structure("f", 8)}, slices.Repeat(api.Term{number(0)}, 8)...),
	} {
		termThereAndBack(t, x, octets(want))
	}
	long := slices.Repeat(api.Term{structure("abcdefghijklmnop", 1)}, api.MaxCells)
	long[api.MaxCells-1] = number(7)
	want := slices.Concat([]byte{128, 2}, bytes.Repeat(octets("3 16 abcdefghijklmnop 1"), api.MaxCells-1), []byte{1, 14})
	termThereAndBack(t, long, want)
}

// wrongTerms are terms that may not be sent.
func wrongTerms() []api.Term {
	return []api.Term{
		nil, {}, {variable(-1, 0)}, {structure("f", 1), variable(-1, 3)}, {variable(4, 0)}, {variable(0, great+1)}, {variable(0, -1)},
		{variable(0, math.MaxInt)}, {structure("f", 2), variable(0, great), variable(1, great+1)}, {number(api.MaxNumber + 1)},
		{number(-api.MaxNumber - 1)}, {atom("=")}, {atom("")}, {atom("A")}, {atom(strings.Repeat("a", 17))}, {structure("=", 1), number(0)},
		{structure("f", 0)}, {structure("f", 1)}, {structure("f", -1)}, {structure("f", 257), number(0)}, {number(0), number(0)}, {{Kind: 9}}, {{}},
		{{Kind: api.Int, Text: "a"}}, {{Kind: api.Atom, Text: "a", N: 1}}, {{Kind: api.Int, Var: name(0, 1)}},
		append(api.Term{structure("f", 9)}, slices.Repeat(api.Term{number(0)}, 9)...),
		append(slices.Repeat(api.Term{structure("f", 1)}, api.MaxCells), number(0)),
	}
}

func TestWrongTerms(t *testing.T) {
	for _, x := range wrongTerms() {
		if b, e := wire.EncodeTerm(x); e != api.ErrForm || len(b) > 0 {
			t.Errorf("EncodeTerm(%v): %v, %v", x, b, e)
		}
		for _, m := range right() {
			if len(m.Term) > 0 {
				m.Term = x
				isWrong(t, m)
			}
		}
	}
}

func isWrong(t *testing.T, m api.Message) {
	t.Helper()
	if wire.Right(m) {
		t.Errorf("right: %v", m)
	}
	if b, e := wire.Encode(m); e != api.ErrForm || len(b) > 0 {
		t.Errorf("Encode(%v): %v, %v", m, b, e)
	}
}

// alike are tags of messages that have the same parts.
func alike(a, b api.Tag) bool { return min(a, b) == api.Add && max(a, b) == api.Release }

func TestTags(t *testing.T) {
	for _, m := range right() {
		for tag := range 256 {
			other := m
			other.Tag = api.Tag(tag)
			if other.Tag != m.Tag && !alike(other.Tag, m.Tag) {
				isWrong(t, other)
			}
		}
	}
	for _, tag := range []api.Tag{0, api.Return + 1, 255} {
		isWrong(t, api.Message{Tag: tag})
		if m, e, at := wire.Decode([]byte{byte(tag), 0, 0, 0}); e != api.ErrBytes || at != 0 || !same(m, api.Message{}) {
			t.Error(tag, m, e, at)
		}
	}
}

// TestOfEachMessageWhatMayNotBeThere sets what is not named.
func TestOfEachMessageWhatMayNotBeThere(t *testing.T) {
	set := map[string]func(m *api.Message){
		"var":    func(m *api.Message) { m.Var = name(0, 1) },
		"vars":   func(m *api.Message) { m.Var = name(1, 0) },
		"goal":   func(m *api.Message) { m.Goal = name(0, 1) },
		"goals":  func(m *api.Message) { m.Goal = name(1, 0) },
		"term":   func(m *api.Message) { m.Term = api.Term{number(1)} },
		"count":  func(m *api.Message) { m.Count = 1 },
		"flags":  func(m *api.Message) { m.Flags = 1 },
		"whole":  func(m *api.Message) { m.Credit.Whole = 1 },
		"bits":   func(m *api.Message) { m.Credit.Bits = []int{1} },
		"below":  func(m *api.Message) { m.Count = -1 },
		"minus":  func(m *api.Message) { m.Flags = -1 },
		"no bit": func(m *api.Message) { m.Credit.Bits = []int{0} },
	}
	may := map[api.Tag]string{
		api.Read:    "var vars whole bits",
		api.Value:   "var vars term whole bits",
		api.Ship:    "goal goals term whole bits",
		api.Add:     "var vars count",
		api.Release: "var vars count",
		api.Return:  "count flags whole bits",
	}
	for _, m := range right() {
		for what, f := range set {
			other := m
			f(&other)
			if want := slices.Contains(strings.Fields(may[m.Tag]), what); wire.Right(other) != want {
				t.Errorf("%s: %v: want %v", what, other, want)
			}
		}
	}
	for _, m := range right() {
		if m.Tag == api.Add || m.Tag == api.Release || m.Tag == api.Return {
			m.Term, m.Credit.Bits = api.Term{}, []int{}
			if wire.Right(m) != true {
				t.Errorf("lists that are empty: %v", m)
			}
		}
	}
}

func TestOfEachMessageWhatMustBeThere(t *testing.T) {
	for _, m := range right() {
		if m.Credit.Whole > 0 || len(m.Credit.Bits) > 0 {
			other := m
			other.Credit = api.Amount{}
			isWrong(t, other)
			other.Credit = bits([]int{}...)
			isWrong(t, other)
		}
		if len(m.Term) > 0 {
			other := m
			other.Term = nil
			isWrong(t, other)
		}
		if m.Tag == api.Release {
			other := m
			other.Count = 0
			isWrong(t, other)
		}
	}
}

// TestCounts has the edges of Counts and Flags.
func TestCounts(t *testing.T) {
	limit := map[api.Tag][2]int{api.Add: {0, api.MaxNodes - 1}, api.Release: {1, great}, api.Return: {0, great}}
	for _, m := range right() {
		l, named := limit[m.Tag]
		for _, n := range []int{math.MinInt, -1, 0, 1, 2, 3, 4, 5, great - 1, great, great + 1, 1 << 40, math.MaxInt} {
			other := m
			other.Count = n
			if want := n == 0 && !named || named && l[0] <= n && n <= l[1]; wire.Right(other) != want {
				t.Errorf("Right(%v): want %v", other, want)
			}
			other = m
			other.Flags = n
			if want := n == 0 || m.Tag == api.Return && 0 <= n && n <= 3; wire.Right(other) != want {
				t.Errorf("Right(%v): want %v", other, want)
			}
		}
	}
}

func TestNames(t *testing.T) {
	for _, n := range []int{math.MinInt, -1, 0, 3, 4, 255, 256, math.MaxInt} {
		for _, k := range []int{math.MinInt, -1, 0, 1, great, great + 1, 1 << 40, math.MaxInt} {
			want := n >= 0 && n <= 3 && k >= 0 && k <= great
			for _, m := range []api.Message{
				{Tag: api.Read, Var: name(n, k), Credit: whole(1)},
				{Tag: api.Value, Var: name(n, k), Term: api.Term{number(1)}, Credit: whole(1)},
				{Tag: api.Value, Term: api.Term{variable(n, k)}, Credit: whole(1)},
				{Tag: api.Ship, Goal: name(n, k), Term: api.Term{number(1)}, Credit: whole(1)},
				{Tag: api.Ship, Term: api.Term{structure("f", 2), variable(0, 0), variable(n, k)}, Credit: whole(1)},
				{Tag: api.Add, Var: name(n, k)},
				{Tag: api.Release, Var: name(n, k), Count: 1},
			} {
				if wire.Right(m) != want {
					t.Errorf("Right(%v): want %v", m, want)
				}
			}
		}
	}
}

func TestAmounts(t *testing.T) {
	for _, a := range []api.Amount{whole(1), whole(great), bits(1), bits(mostBit), bits(1, 2, 3), bits(1, mostBit-1, mostBit), {Whole: great, Bits: []int{5}}} {
		for _, m := range right() {
			if m.Tag != api.Add && m.Tag != api.Release {
				m.Credit = a
				if !wire.Right(m) {
					t.Errorf("not right: %v", m)
				}
			}
		}
	}
	for _, a := range []api.Amount{
		{}, bits(), whole(-1), whole(great + 1), whole(math.MinInt), whole(math.MaxInt), bits(0), bits(-1), bits(mostBit + 1), bits(math.MaxInt), bits(math.MinInt),
		bits(1, 1), bits(2, 1), bits(1, 2, 2), bits(1, 3, 2), bits(0, 1), bits(1, mostBit+1), bits(mostBit, mostBit+1), bits(1, math.MaxInt, math.MinInt),
		{Whole: -1, Bits: []int{1}}, {Whole: 1, Bits: []int{0}}, {Whole: 1, Bits: []int{3, 3}}, {Whole: great + 1, Bits: []int{1}},
	} {
		for _, m := range right() {
			m.Credit = a
			if m.Tag != api.Add && m.Tag != api.Release || a.Whole != 0 || len(a.Bits) > 0 {
				isWrong(t, m)
			}
		}
	}
}

// rising are the Bits 1 to n.
func rising(n int) []int {
	l := make([]int, n)
	for i := range l {
		l[i] = i + 1
	}
	return l
}

// TestLongMessages has one of just MaxMessage bytes, and one of one more.
func TestLongMessages(t *testing.T) {
	const n = api.MaxMessage - 7 // the tag, a name of two bytes, Whole, three bytes for how many
	m := api.Message{Tag: api.Read, Var: name(1, 2), Credit: bits(rising(n)...)}
	want := append(octets("1, 1 2, 0 249 255 3"), bytes.Repeat([]byte{1}, n)...)
	if len(want) != api.MaxMessage {
		t.Fatal(len(want))
	}
	thereAndBack(t, m, want)
	for _, more := range []api.Message{
		{Tag: api.Read, Var: name(1, 2), Credit: bits(rising(n + 1)...)},
		{Tag: api.Read, Var: name(1, 128), Credit: m.Credit},
		{Tag: api.Read, Var: name(1, 2), Credit: api.Amount{Whole: 128, Bits: m.Credit.Bits}},
		{Tag: api.Read, Var: name(1, 2), Credit: bits(rising(mostBit)...)},
	} {
		if b, e := wire.Encode(more); !wire.Right(more) || e != api.ErrLong || len(b) > 0 {
			t.Error(len(b), e)
		}
	}
	wrong := m
	wrong.Credit = bits(append(rising(mostBit), mostBit)...)
	isWrong(t, wrong)
	for _, b := range [][]byte{
		append(slices.Clone(want), 1), append(octets("1, 1 2, 0 250 255 3"), bytes.Repeat([]byte{1}, n+1)...),
		make([]byte, api.MaxMessage+1), bytes.Repeat([]byte{1}, 2*api.MaxMessage), append(octets("5, 0 5, 2"), make([]byte, api.MaxMessage)...),
		append(octets("1, 1 0"), make([]byte, api.MaxMessage)...),
	} {
		if m, e, at := wire.Decode(b); e != api.ErrLong || at != api.MaxMessage || !same(m, api.Message{}) {
			t.Error(m.Tag, e, at)
		}
		if x, e, at := wire.DecodeTerm(b); e != api.ErrLong || at != api.MaxMessage || len(x) > 0 {
			t.Error(x, e, at)
		}
	}
	for b, at := range map[string]int{string(make([]byte, api.MaxMessage)): 0, string(append(octets("5, 0 5, 2"), make([]byte, api.MaxMessage-4)...)): 4} {
		isNone(t, []byte(b), at)
	}
}

// isNone holds the place of what is wrong in bytes that are no message.
func isNone(t *testing.T, b []byte, want int) {
	t.Helper()
	if m, e, at := wire.Decode(b); e != api.ErrBytes || at != want || !same(m, api.Message{}) {
		t.Errorf("Decode(%s): %v, %v, %d; want %d", short(b), m, e, at, want)
	}
}

func isNoTerm(t *testing.T, b []byte, want int) {
	t.Helper()
	if x, e, at := wire.DecodeTerm(b); e != api.ErrBytes || at != want || len(x) > 0 {
		t.Errorf("DecodeTerm(%s): %v, %v, %d; want %d", short(b), x, e, at, want)
	}
}

func short(b []byte) string {
	if len(b) > 60 {
		return fmt.Sprint(b[:60], " of ", len(b))
	}
	return fmt.Sprint(b)
}

// wrongBytes are bytes that are no message, with the place that is told, marked by a bar in front of it.
var wrongBytes = []string{
	"|", "|0 1 2", "|7", "|255 0 0 1 0",
	"1 |4 5 1 0", "1 |255", "1 |4 128", "1 0 |128 128 128 128 8 1 0", "1 0 |128 0 1 0", "1 0 |133 128 0 1 0", // names
	"1 0 |255 255 255 255 255 32 1 0", "1 0 |255 255 255 255 255 255", "1 0 |128 128 128 128 128 128 128 1", "1 0 |255 255 255 255 255 255 255 255 255 255 255 255",
	"1 0 255 255 255 255 255|", "1 0 128 128 128 128 128|", "1 0 255 255 255 255 7|", "1 3 0 1 0 |0", "1 3 0 1 0 |1 3 0 1 0",
	"1 0 5 |0 0", "1 0 5 |128 0 0", "1 0 5 |128 128 128 128 8 0", "1 0 5 0 |128 0", "1 0 5 0 |129 128 64", "1 0 5 0 |129 128 0", "1 0 5 1 |255 255 255 255 255 255 1", // amounts
	"1 0 5 0 1 |0", "1 0 5 0 2 3 |0", "1 0 5 0 1 |129 128 64", "1 0 5 0 2 1 |128 128 64", "1 0 5 0 2 128 128 64 |1", "1 0 5 0 3 1 |0 0", "1 0 5 0 1 |129 0",
	"1 0 5 0 2 3|", "1 0 5 0 128 128 64|", "1 0 5 0 128 128 64 |0", "1 0 5 3|", "1 0 5 0 1 1 |1", "1 0 5 0 1 1 |2 3",
	"4 0 5 |4", "4 0 5 |128 0", "4 0 5 |132 1", "4 0 5 |255 255 255 255 7", "4 0 5 3 |0", "4 0 5|", // counts and flags
	"5 0 5 |0", "5 0 5 |128 128 128 128 8", "5 0 5 |129 0", "5 0 5 |255 255 255 255 255 255 255 1", "5 0 5 255 255 255 255 7 |7",
	"6 |128 128 128 128 8 0 1 0", "6 0 |4 1 0", "6 0 |131 0 1 0", "6 0 |131 1 1 0", "6 0 3 |0 0", "6 0 3 1 0 |0", "6 0 3 1|",
	"2 |4", "2 0 0 |0 1 0", "2 0 0 |129 2 1 0", "2 0 0 |128 0", "2 0 0 1 1 0 |0 0", "2 0 0 1 1 0 1 0 |0", "2 0 0 1|", "2 0 0 1 1 0 1|", // of a Value and a Ship
	"3 |9 0 1 1 0 1 0", "3 0 |128 128 128 128 8 1 1 0 1 0", "3 0 0 1 |9 0 1 0", "3 0 0 1 1 2 |0 0", "3 0 0 1 4 |4 0 1 0", "3 0 0 1 4 0 |128 128 128 128 8 1 0",
}

// wrongTermBytes are likewise of a term.
var wrongTermBytes = []string{
	"|", "|0", "|0 1 0", "|129 2 1 0", "|128 0", "|255 255 255 255 255 255 1 1 0", "128 2|", "129|", "1|", "1 1|", "1 |0", "1 |0 0", "1 |5", "1 |255 1 a",
	"1 |1 129 128 128 128 16", "1 |1 130 128 128 128 16", "1 |1 255 255 255 255 31", "1 |1 128 128 128 128 128 32", // an Int above 2^32, up to 2^40
	"1 1 |129 128 128 128 128 32", "1 1 |128 0", "1 |1 129 128 128 128 16 0", "1 1 |129 128 128 128 144 0", "1 1 |128 128 128 128 128 128 1", "1 1 |255 255 255 255 255 127", "1 1 128|", "1 1 255 255 255 255 255|",
	"1 1 |255 255 255 255 255 255",                                                                                                                                                // and above
	"1 2 |0", "1 2 |17", "1 2 |17 aaaaaaaaaaaaaaaaa", "1 2 |128 0", "1 2 |129 0 a", "1 2 |145 1", "1 2 |255 255 255 255 255 255 1 a", "1 2|", "1 2 1|", "1 2 16 aaaaaaaaaaaaaaa|", // texts
	"1 2 |1 A", "1 2 |2 =! 1", "1 2 |1 200", "1 2 |2 a- 1", "1 2 |1 0", "1 2 |2 a 32", "1 2 |3 aA 200", "1 2 3 A-|", "1 2 3 a|", "1 2 129|",
	"1 |2 1 =", "1 |2 2 =<", "1 |2 1 @", "1 |2 3 =:=", // signs
	"2 3 |0 1 1 0", "2 3 |17 a", "2 3 |1 A 1 1 0", "2 3 |2 a 200 1 1 0", "2 3 1 f|", "2 3 1 f 1|", "2 |3 1 f 0 1 0", "2 |3 1 f 9 1 0", "2 |3 1 f 255", "2 |3 1 = 1 1 0", "4 |3 1 + 3 1 0 1 0 1 0", "2 |3 1 = 0 1 0",
	"1 |3 1 f 1", "1 3 1 f|", "2 |3 1 f 2 1 0", "2 |3 1 f 8", "2 |3 1 = 2 1 0 1 0", "3 3 1 f 1 |3 1 g 2 1 0", "3 3 1 f 2 |3 1 g 1 1 0", "3 3 1 f 2 1 0 |3 1 g 1 1 0", "128 2 3 1 f 8|", // no room
	"2 |1 0 1 0", "2 |2 1 a 2 1 a", "2 |4 0 0 1 0", "3 3 1 f 1 |1 0 1 0", "4 3 1 f 2 1 0 |4 0 0 1 0", "2 |1 0", "2 |2 1 a", "128 2 |1 0", "3 3 1 f 1 |1 2", // more than it needs
	"2 2|", "2 2 |0", "2 2 |1 A", "2 2 1|", "2 4 |4 0", "2 1 |128 0", "1 3 |0 1", "2 3 |1 200 9", "1 3 1|", // what stands in a cell is read ahead of the cell's end
	"1 4|", "1 4 0|", "1 4 0 128|", "1 4 |4 0", "1 4 |255 0", "1 4 |4", "1 4 0 |128 0", "1 4 0 |128 128 128 128 8", "1 4 0 |255 255 255 255 255 32",
}

// cutAtBar are the bytes, and the place of the bar.
func cutAtBar(s string) ([]byte, int) {
	front, behind, _ := strings.Cut(s, "|")
	b := octets(front)
	return append(b, octets(behind)...), len(b)
}

func TestWrongBytes(t *testing.T) {
	for _, s := range wrongBytes {
		if strings.Count(s, "|") != 1 {
			t.Fatal(s)
		}
		b, at := cutAtBar(s)
		isNone(t, b, at)
	}
}

func TestWrongBytesOfTerms(t *testing.T) {
	for _, s := range wrongTermBytes {
		if strings.Count(s, "|") != 1 {
			t.Fatal(s)
		}
		b, at := cutAtBar(s)
		isNoTerm(t, b, at)
		head := octets("2 1 133 1")
		isNone(t, slices.Concat(head, b), len(head)+at)
	}
}

// TestBytesLeft: in a message what stands behind a term is its amount.
func TestBytesLeft(t *testing.T) {
	for _, s := range []string{"1 1 0 |1", "1 1 0 |0", "1 2 1 a |2", "1 4 3 0 |0", "2 3 1 f 1 1 5 |1 5", "1 1 0 |1 1 0"} {
		b, at := cutAtBar(s)
		isNoTerm(t, b, at)
	}
	for _, m := range right() {
		b, _ := wire.Encode(m)
		for _, more := range []string{"0", "1", "255", "1 1 172 2 1 0"} {
			isNone(t, slices.Concat(b, octets(more)), len(b))
		}
	}
}

func TestNoBytes(t *testing.T) {
	isNone(t, nil, 0)
	isNone(t, []byte{}, 0)
	isNoTerm(t, nil, 0)
	isNoTerm(t, []byte{}, 0)
}

func TestTooManyBits(t *testing.T) {
	head := octets("1 0 5 0")
	isNone(t, slices.Concat(head, octets("129 128 64"), bytes.Repeat([]byte{1}, 100)), len(head))
	isNone(t, slices.Concat(head, octets("128 128 64"), bytes.Repeat([]byte{1}, 100)), len(head)+103)
	isNone(t, slices.Concat(head, octets("255 255 255 255 255 31")), len(head))
}

func TestCarries(t *testing.T) {
	x, y := variable(1, 5), variable(0, 2)
	l := api.Term{structure("f", 4), y, structure("g", 1), x, y, x}
	for _, m := range []api.Message{
		{Tag: api.Value, Var: name(3, 3), Term: l, Credit: whole(1)}, {Tag: api.Ship, Goal: name(3, 3), Term: l, Credit: whole(1)},
		{Tag: api.Value, Term: l}, {Tag: api.Ship, Term: l, Count: -1},
	} {
		if got := wire.Carries(m); !slices.Equal(got, []api.Name{y.Var, x.Var}) {
			t.Errorf("Carries(%v): %v", m, got)
		}
	}
	for tag := range 256 {
		m := api.Message{Tag: api.Tag(tag), Var: name(3, 3), Goal: name(3, 4), Term: l}
		if got := wire.Carries(m); (len(got) > 0) != (m.Tag == api.Value || m.Tag == api.Ship) {
			t.Errorf("Carries(%v): %v", m, got)
		}
	}
	for _, m := range right() {
		if got := wire.Carries(m); !slices.Equal(got, term.Vars(m.Term)) {
			t.Errorf("Carries(%v): %v", m, got)
		}
	}
	odd := api.Message{Tag: api.Ship, Term: api.Term{variable(-1, 7), variable(9, -3), {Kind: 9, Var: name(1, 1)}}}
	if got := wire.Carries(odd); !slices.Equal(got, []api.Name{name(-1, 7), name(9, -3)}) {
		t.Error(got)
	}
	if got := wire.Carries(api.Message{Tag: api.Value}); len(got) > 0 {
		t.Error(got)
	}
}
