package credit_test

import (
	"math"
	"slices"
	"strconv"
	"strings"
	"testing"

	"purlin/api"
	"purlin/credit"
)

// The calls have the forms that chapter 17 lists.
var (
	_ func(a api.Amount) bool                                 = credit.Right
	_ func(n int) api.Amount                                  = credit.Units
	_ func(a api.Amount) bool                                 = credit.IsZero
	_ func(l ...api.Amount) (api.Amount, api.Errno)           = credit.Sum
	_ func(a api.Amount) (keep, give api.Amount, e api.Errno) = credit.Split
	_ func(a, b api.Amount) int                               = credit.Compare
	_ func(a api.Amount) string                               = credit.Print
	_ func(s string) (api.Amount, api.Errno)                  = credit.Parse
)

const (
	most    = 1<<31 - 1
	mostBit = 1 << 20
)

func amount(whole int, bits ...int) api.Amount { return api.Amount{Whole: whole, Bits: bits} }

func same(a, b api.Amount) bool { return a.Whole == b.Whole && slices.Equal(a.Bits, b.Bits) }

// all are the Bits from one to another one.
func all(from, to int) (l []int) {
	for b := from; b <= to; b++ {
		l = append(l, b)
	}
	return l
}

// wrong are amounts that are not right.
func wrong() []api.Amount {
	return []api.Amount{
		amount(-1), amount(most + 1), amount(1 << 32), amount(math.MinInt), amount(math.MaxInt),
		amount(-1, 1), amount(most+1, 1), amount(math.MinInt, 1), amount(math.MaxInt, 1, 2),
		amount(0, 0), amount(1, 0), amount(0, -1), amount(1, math.MinInt), amount(0, 0, 1), amount(3, -1, 1),
		amount(0, mostBit+1), amount(1, 1, mostBit+1), amount(0, math.MaxInt), amount(0, mostBit, mostBit+1),
		amount(0, 1, 1), amount(1, 2, 1), amount(0, 1, 2, 2), amount(0, 1, 3, 2), amount(0, mostBit, mostBit),
		amount(0, 2, 3, 1), amount(0, mostBit, 1), amount(0, 1, 0), amount(0, 5, -5), amount(0, 1, math.MinInt),
	}
}

// right are amounts that are, each greater than the one ahead.
func right() []api.Amount {
	return []api.Amount{
		amount(0), amount(0, mostBit), amount(0, mostBit-1), amount(0, mostBit-1, mostBit), amount(0, 7),
		amount(0, 3), amount(0, 3, 7), amount(0, 3, 4), amount(0, 3, 4, 5), amount(0, 2), amount(0, 2, 3),
		amount(0, 1), amount(0, 1, mostBit), amount(0, 1, 2), amount(0, all(1, 12)...), amount(0, all(1, mostBit)...),
		amount(1), amount(1, mostBit), amount(1, 1), amount(1, 1, 2, 3), amount(2), amount(2, 2), amount(10), amount(11, 10),
		amount(most - 1), amount(most-1, all(1, mostBit)...), amount(most), amount(most, mostBit), amount(most, 1),
		amount(most, all(1, mostBit)...),
	}
}

func TestExamples(t *testing.T) {
	splits(t, amount(1), amount(0, 1), amount(0, 1))
	splits(t, amount(0, 1), amount(0, 2), amount(0, 2))
	splits(t, amount(1, 3), amount(1), amount(0, 3))
	splits(t, amount(3), amount(2), amount(1))
	sums(t, amount(1), amount(0, 1), amount(0, 1))
	sums(t, amount(0, 1), amount(0, 2, 3), amount(0, 3))
	reads(t, "1+1+3", amount(1, 1, 3))
}

func TestRight(t *testing.T) {
	for _, a := range right() {
		if !credit.Right(a) {
			t.Errorf("%.40s is right", credit.Print(a))
		}
	}
	for _, a := range wrong() {
		if credit.Right(a) {
			t.Errorf("%v is not right", a)
		}
	}
	if !credit.Right(api.Amount{Bits: []int{}}) || !credit.Right(api.Amount{Whole: 1, Bits: []int{}}) {
		t.Error("an empty list is none")
	}
}

func TestUnits(t *testing.T) {
	for _, n := range []int{0, 1, 2, 77, 1 << 20, 1<<20 + 1, most - 1, most} {
		if a := credit.Units(n); !same(a, amount(n)) {
			t.Errorf("Units(%d): %v", n, a)
		}
	}
	for _, n := range []int{math.MinInt, -1 << 32, -most, -2, -1, most + 1, most + 2, 1 << 32, 1<<32 + 1, math.MaxInt} {
		if a := credit.Units(n); !same(a, amount(0)) {
			t.Errorf("Units(%d): %v", n, a)
		}
	}
}

func TestIsZero(t *testing.T) {
	for i, a := range right() {
		if credit.IsZero(a) != (i == 0) {
			t.Errorf("%.40s: %v", credit.Print(a), i > 0)
		}
	}
	for _, a := range append(wrong(), amount(-1, 1, 1), amount(0, 0, 0)) {
		if credit.IsZero(a) {
			t.Errorf("%v is not right", a)
		}
	}
	if !credit.IsZero(api.Amount{Bits: []int{}}) || !credit.IsZero(credit.Units(0)) || !credit.IsZero(credit.Units(-3)) {
		t.Error("zero is zero")
	}
}

func sums(t *testing.T, want api.Amount, l ...api.Amount) {
	t.Helper()
	if got, e := credit.Sum(l...); e != api.OK || !same(got, want) {
		t.Errorf("%.80s, %v; want %.80s", credit.Print(got), e, credit.Print(want))
	}
	slices.Reverse(l)
	if got, e := credit.Sum(l...); e != api.OK || !same(got, want) {
		t.Errorf("turned about: %.80s, %v; want %.80s", credit.Print(got), e, credit.Print(want))
	}
}

func sumless(t *testing.T, want api.Errno, l ...api.Amount) {
	t.Helper()
	for range l {
		if got, e := credit.Sum(l...); e != want || !same(got, amount(0)) {
			t.Errorf("%.80v: %v, %v; want %v", l, got, e, want)
		}
		l = append(slices.Clone(l[1:]), l[0])
	}
}

func TestSum(t *testing.T) {
	sums(t, amount(0))
	sums(t, amount(0), nil...)
	sums(t, amount(0), amount(0))
	sums(t, amount(0), amount(0), api.Amount{Bits: []int{}}, amount(0))
	for _, a := range right() {
		sums(t, a, a)
		sums(t, a, a, amount(0))
	}
	sums(t, amount(6), amount(1), amount(2), amount(3))
	sums(t, amount(0, 1, 2, 3), amount(0, 2), amount(0, 1, 3))
	sums(t, amount(5, 1, 4), amount(2, 4), amount(3, 1))
	sums(t, amount(0, 4, 6), amount(0, 5, 6), amount(0, 5))
	sums(t, amount(0, 1, 5), amount(0, 3), amount(0, 2, 5), amount(0, 3))
	sums(t, amount(1, 1), amount(0, 1), amount(0, 1), amount(0, 1))
	sums(t, amount(2), amount(0, 1), amount(0, 1), amount(0, 1), amount(0, 1))
	sums(t, amount(0, 1), amount(0, 4), amount(0, 3, 4), amount(0, 3, 4), amount(0, 4))
	sums(t, amount(0, mostBit-1), amount(0, mostBit), amount(0, mostBit))
	sums(t, amount(0, mostBit-1, mostBit), amount(0, mostBit), amount(0, mostBit), amount(0, mostBit))
}

// TestSumCarriesFar: over many places, and into Whole.
func TestSumCarriesFar(t *testing.T) {
	full := amount(0, all(1, mostBit)...)
	sums(t, amount(1), full, amount(0, mostBit))
	sums(t, amount(8), amount(7, all(1, mostBit)...), amount(0, mostBit))
	sums(t, amount(1, all(1, mostBit-1)...), full, full)
	sums(t, amount(0, 4), amount(0, all(5, 60)...), amount(0, 60))
	sums(t, amount(0, 4, 70), amount(0, append(all(5, 60), 70)...), amount(0, 60))
	sums(t, amount(0, 2, 4), amount(0, append([]int{2}, all(5, 90)...)...), amount(0, 90))
	for _, places := range []int{1, 2, 7, 16} {
		l := make([]api.Amount, 1<<places)
		for i := range l {
			l[i] = amount(0, 20)
		}
		sums(t, amount(0, 20-places), l...)
		for i := range l {
			l[i] = amount(0, places)
		}
		sums(t, amount(1), l...)
		sums(t, amount(1, places), append(l, amount(0, places))...)
		sums(t, amount(0, all(1, places)...), l[1:]...)
	}
}

func TestSumIsFull(t *testing.T) {
	full := amount(0, all(1, 40)...)
	sums(t, amount(most), amount(most))
	sums(t, amount(most), amount(most-1), amount(1))
	sums(t, amount(most), amount(most-1), amount(0, 1), amount(0, 1))
	sums(t, amount(most), amount(most-1), full, amount(0, 40))
	sums(t, amount(most, 1), amount(most), amount(0, 1))
	sums(t, amount(most, all(1, 40)...), amount(most), full)
	sums(t, amount(most, all(1, 39)...), amount(most-1), full, full)
	sumless(t, api.ErrFull, amount(most), amount(1))
	sumless(t, api.ErrFull, amount(most), amount(most))
	sumless(t, api.ErrFull, amount(most), amount(0, 1), amount(0, 1))
	sumless(t, api.ErrFull, amount(most), full, amount(0, 40))
	sumless(t, api.ErrFull, amount(most-1), amount(1), full, full)
	sumless(t, api.ErrFull, amount(1<<30), amount(1<<30))
	sumless(t, api.ErrFull, amount(most), amount(most), amount(2)) // 2^32: nothing, if it went round in 32 bits
	sums(t, amount(most), amount(1<<30), amount(1<<30-1))
	many := make([]api.Amount, 1<<17)
	for i := range many {
		many[i] = amount(most, 1, 2, 3)
	}
	if a, e := credit.Sum(many...); e != api.ErrFull || !same(a, amount(0)) {
		t.Error(a, e)
	}
}

func TestSumOfWhatIsNotRight(t *testing.T) {
	for _, a := range wrong() {
		sumless(t, api.ErrForm, a)
		sumless(t, api.ErrForm, a, amount(0))
		sumless(t, api.ErrForm, a, amount(1), amount(0, 1), amount(0, 1, 2))
		sumless(t, api.ErrForm, a, a)
		sumless(t, api.ErrForm, a, amount(most), amount(1)) // this would be too great, too
	}
	sumless(t, api.ErrForm, amount(-1), amount(1))
	sumless(t, api.ErrForm, amount(0, 0), amount(0, 0))
}

func splits(t *testing.T, a, keep, give api.Amount) {
	t.Helper()
	k, g, e := credit.Split(a)
	if e != api.OK || !same(k, keep) || !same(g, give) {
		t.Errorf("Split(%.40s): %.40s, %.40s, %v; want %.40s, %.40s", credit.Print(a), credit.Print(k), credit.Print(g), e, credit.Print(keep), credit.Print(give))
	}
}

func splitless(t *testing.T, a api.Amount, want api.Errno) {
	t.Helper()
	if k, g, e := credit.Split(a); e != want || !same(k, amount(0)) || !same(g, amount(0)) {
		t.Errorf("Split(%v): %v, %v, %v; want %v", a, k, g, e, want)
	}
}

func TestSplit(t *testing.T) {
	splits(t, amount(2), amount(1), amount(1))
	splits(t, amount(7), amount(6), amount(1))
	splits(t, amount(most), amount(most-1), amount(1))
	for _, b := range []int{1, 2, 3, 64, 1000, mostBit - 2, mostBit - 1} {
		splits(t, amount(0, b), amount(0, b+1), amount(0, b+1))
	}
	for _, b := range []int{2, 3, 64, mostBit - 1, mostBit} {
		splits(t, amount(0, 1, b), amount(0, 1), amount(0, b))
		splits(t, amount(1, b), amount(1), amount(0, b))
		splits(t, amount(most, b), amount(most), amount(0, b))
		splits(t, amount(2, 1, b), amount(2, 1), amount(0, b))
	}
	splits(t, amount(1, 1), amount(1), amount(0, 1))
	splits(t, amount(0, 2, 5, 9), amount(0, 2, 5), amount(0, 9))
	splits(t, amount(0, all(1, mostBit)...), amount(0, all(1, mostBit-1)...), amount(0, mostBit))
	splits(t, api.Amount{Whole: 1, Bits: []int{}}, amount(0, 1), amount(0, 1))
	splitless(t, amount(0, mostBit), api.ErrFull)
	splitless(t, amount(0), api.ErrNone)
	splitless(t, api.Amount{Bits: []int{}}, api.ErrNone)
	for _, a := range wrong() {
		splitless(t, a, api.ErrForm)
	}
}

func TestCompare(t *testing.T) {
	l := right()
	for i, a := range l {
		for j, b := range l {
			want := 0
			if i < j {
				want = -1
			} else if i > j {
				want = 1
			}
			if got := credit.Compare(a, b); got != want {
				t.Errorf("%.40s, %.40s: %d", credit.Print(a), credit.Print(b), got)
			}
		}
		for _, b := range wrong() {
			if credit.Compare(a, b) != 0 || credit.Compare(b, a) != 0 {
				t.Errorf("%.40s, %v", credit.Print(a), b)
			}
		}
	}
	for _, a := range wrong() {
		for _, b := range wrong() {
			if credit.Compare(a, b) != 0 {
				t.Error(a, b)
			}
		}
	}
	if credit.Compare(amount(1), api.Amount{Whole: 1, Bits: []int{}}) != 0 {
		t.Error("an empty list is none")
	}
}

func TestPrint(t *testing.T) {
	for want, a := range map[string]api.Amount{
		"0": amount(0), "1": amount(1), "10": amount(10), "2147483647": amount(most),
		"0+1": amount(0, 1), "0+1048576": amount(0, mostBit), "3+1+10+100": amount(3, 1, 10, 100),
		"2147483647+1048575+1048576": amount(most, mostBit-1, mostBit),
	} {
		if got := credit.Print(a); got != want {
			t.Errorf("%s, want %s", got, want)
		}
	}
	if got := credit.Print(api.Amount{Bits: []int{}}); got != "0" {
		t.Error(got)
	}
	for _, a := range wrong() {
		if got := credit.Print(a); got != "" {
			t.Errorf("%v: %s", a, got)
		}
	}
}

func reads(t *testing.T, s string, want api.Amount) {
	t.Helper()
	if got, e := credit.Parse(s); e != api.OK || !same(got, want) {
		t.Errorf("Parse(%.60q): %.60v, %v", s, got, e)
	}
	if got := credit.Print(want); got != s {
		t.Errorf("Print: %.60q, want %.60q", got, s)
	}
}

func TestParse(t *testing.T) {
	for _, a := range right() {
		s := strconv.Itoa(a.Whole)
		for _, b := range a.Bits {
			s += "+" + strconv.Itoa(b)
			if len(s) > 200 {
				break
			}
		}
		if len(s) <= 200 {
			reads(t, s, a)
		} else {
			reads(t, credit.Print(a), a)
		}
	}
}

func TestParseOfWhatIsNone(t *testing.T) {
	for _, s := range []string{
		"", " ", "+", "-", "++", "1+", "+1", "0+", "1++2", "1+2+", "1+2++3", "+1+2", "++1",
		"00", "01", "007", "1+01", "1+1+02", "0+00", "01+1", "00+1",
		"-0", "-1", "+0", "1+-1", "1+-2", "1-1", "-1+1", "--1", "1+--1", "-2147483647", "-0+1",
		"1+0", "0+0", "1+0+1", "1+1+0", "1+-0",
		"0+1+1", "0+2+1", "1+1+3+2", "0+1+2+2", "0+5+4+6", "0+1048576+1", "0+10+9",
		"0+1048577", "1+1+1048577", "0+2147483648", "0+9223372036854775807", "0+9223372036854775808", "0+18446744073709551617",
		"2147483648", "2147483648+1", "4294967296", "4294967297", "9223372036854775807", "9223372036854775808",
		"18446744073709551616", "18446744073709551617", "100000000000000000000000000",
		" 1", "1 ", "1 +1", "1+ 1", "1+1 ", "\t1", "1\n", "1+1\n", "1\x00", "\u00a01",
		"a", "1a", "1+a", "0x1", "1+0x1", "1_0", "1+1_0", "1e1", "1.0", "1,1", "0b1", "0o7", "1+1.5", "one", "inf", "NaN",
		"1;2", "1*1", "1+1=2", "\u0661", "1+\u0661", "\uff11", "1\uff0b1", "\xff", "1+\xff", "'1'", "(1)",
		strings.Repeat("9", 10000), strings.Repeat("0", 10000), strings.Repeat("+", 10000), "0+" + strings.Repeat("1", 10000),
		"0" + strings.Repeat("+1", 10000), strings.Repeat("1+", 10000), credit.Print(amount(0, all(1, mostBit)...)) + "+1048577",
	} {
		if a, e := credit.Parse(s); e != api.ErrForm || !same(a, amount(0)) {
			t.Errorf("Parse(%.60q): %v, %v", s, a, e)
		}
	}
	for _, a := range wrong() { // as they would be written, if they were right
		s := strconv.Itoa(a.Whole)
		for _, b := range a.Bits {
			s += "+" + strconv.Itoa(b)
		}
		if got, e := credit.Parse(s); e != api.ErrForm || !same(got, amount(0)) {
			t.Errorf("Parse(%q): %v, %v", s, got, e)
		}
	}
}
