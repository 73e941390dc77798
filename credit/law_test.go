package credit_test

import (
	"fmt"
	"math/big"
	"math/rand"
	"regexp"
	"slices"
	"strconv"
	"strings"
	"testing"

	"purlin/api"
	"purlin/credit"
)

// exact is an amount as a fraction.
func exact(a api.Amount) *big.Rat {
	n := new(big.Rat).SetInt64(int64(a.Whole))
	for _, b := range a.Bits {
		n.Add(n, new(big.Rat).SetFrac(big.NewInt(1), new(big.Int).Lsh(big.NewInt(1), uint(b))))
	}
	return n
}

func exactly(l []api.Amount) *big.Rat {
	n := new(big.Rat)
	for _, a := range l {
		n.Add(n, exact(a))
	}
	return n
}

// someAmount is a right one, its Bits at most deep.
func someAmount(r *rand.Rand, deep int) api.Amount {
	a := api.Amount{Whole: []int{0, 0, 1, r.Intn(4), r.Intn(1 << 28)}[r.Intn(5)]}
	thin := 1 + r.Intn(4)
	for b := 1; b <= deep; b++ {
		if r.Intn(4) >= thin {
			a.Bits = append(a.Bits, b)
		}
	}
	return a
}

func someAmounts(r *rand.Rand) (l []api.Amount) {
	deep := 1 + r.Intn(12)
	for range r.Intn(7) {
		l = append(l, someAmount(r, deep))
	}
	return l
}

func must(t *testing.T, l ...api.Amount) api.Amount {
	t.Helper()
	a, e := credit.Sum(l...)
	if e != api.OK || !credit.Right(a) {
		t.Fatalf("Sum(%v): %v, %v", l, a, e)
	}
	return a
}

// TestSumIsExact is P17.1 and P17.5, held against fractions: in any order, and however some are added up first.
func TestSumIsExact(t *testing.T) {
	for seed := range 4000 {
		r := rand.New(rand.NewSource(int64(seed)))
		l := someAmounts(r)
		sum := must(t, l...)
		if exact(sum).Cmp(exactly(l)) != 0 {
			t.Fatalf("Sum(%v): %v", l, sum)
		}
		r.Shuffle(len(l), func(i, j int) { l[i], l[j] = l[j], l[i] })
		if other := must(t, l...); !same(sum, other) {
			t.Fatalf("Sum(%v): %v, in another order %v", l, other, sum)
		}
		cut := r.Intn(len(l) + 1)
		if other := must(t, must(t, l[:cut]...), must(t, l[cut:]...)); !same(sum, other) {
			t.Fatalf("Sum(%v) in two: %v, %v", l, other, sum)
		}
		more := someAmount(r, 14)
		want := -1
		if credit.IsZero(more) {
			want = 0
		}
		if got := credit.Compare(sum, must(t, append(l, more)...)); got != want {
			t.Fatalf("Sum(%v) with %v more: %d", l, more, got)
		}
	}
}

// TestSmallSums is the same of all sums of two amounts with Bits up to 4, and of three up to 2.
func TestSmallSums(t *testing.T) {
	for _, a := range small(4) {
		for _, b := range small(4) {
			l := []api.Amount{a, b}
			if sum := must(t, l...); exact(sum).Cmp(exactly(l)) != 0 {
				t.Fatalf("Sum(%v): %v", l, sum)
			}
		}
	}
	for _, a := range small(2) {
		for _, b := range small(2) {
			for _, c := range small(2) {
				l := []api.Amount{a, b, c}
				if sum := must(t, l...); exact(sum).Cmp(exactly(l)) != 0 {
					t.Fatalf("Sum(%v): %v", l, sum)
				}
			}
		}
	}
}

// small are all amounts of up to two units with Bits up to deep, rising.
func small(deep int) (l []api.Amount) {
	for n := range 3 << deep {
		a := api.Amount{Whole: n >> deep}
		for b := 1; b <= deep; b++ {
			if n>>(deep-b)&1 == 1 {
				a.Bits = append(a.Bits, b)
			}
		}
		l = append(l, a)
	}
	return l
}

// TestCompareIsAnOrder is P17.6, of all pairs of small amounts, and by chance of greater ones.
func TestCompareIsAnOrder(t *testing.T) {
	l := small(6)
	for i, a := range l {
		for j, b := range l {
			if got := credit.Compare(a, b); got != exact(a).Cmp(exact(b)) || got != sign(i-j) {
				t.Fatalf("%v, %v: %d", a, b, got)
			}
		}
	}
	for seed := range 2000 {
		r := rand.New(rand.NewSource(int64(10000 + seed)))
		a, b, c := someAmount(r, 30), someAmount(r, 30), someAmount(r, 30)
		if r.Intn(2) == 0 { // unlike in a late place alone
			b = must(t, a, amount(0, 1+r.Intn(31)))
		}
		ab, ba := credit.Compare(a, b), credit.Compare(b, a)
		if ab != exact(a).Cmp(exact(b)) || ab != -ba || (ab == 0) != same(a, b) {
			t.Fatalf("%v, %v: %d, %d", a, b, ab, ba)
		}
		if ab == credit.Compare(b, c) && credit.Compare(a, c) != ab {
			t.Fatalf("%v, %v, %v", a, b, c)
		}
		if credit.Compare(must(t, a, c), must(t, b, c)) != ab {
			t.Fatalf("%v, %v, with %v more", a, b, c)
		}
	}
}

func sign(n int) int { return min(max(n, -1), 1) }

// TestSplitLosesNothing is P17.4, along long rows of splits.
func TestSplitLosesNothing(t *testing.T) {
	for seed := range 1000 {
		r := rand.New(rand.NewSource(int64(20000 + seed)))
		a := someAmount(r, 8)
		for range 20 {
			keep, give, e := credit.Split(a)
			if credit.IsZero(a) {
				splitless(t, a, api.ErrNone)
				break
			}
			if e != api.OK || credit.IsZero(keep) || credit.IsZero(give) || !credit.Right(keep) || !credit.Right(give) {
				t.Fatalf("Split(%v): %v, %v, %v", a, keep, give, e)
			}
			if !same(must(t, keep, give), a) {
				t.Fatalf("Split(%v): %v, %v", a, keep, give)
			}
			if credit.Compare(keep, a) != -1 || credit.Compare(give, a) != -1 || credit.Compare(give, keep) == 1 {
				t.Fatalf("Split(%v): %v, %v", a, keep, give)
			}
			a = []api.Amount{keep, give}[r.Intn(2)]
		}
	}
}

// splitWords is P17.2 by its words, over a text.
func splitWords(a api.Amount) (keep, give string) {
	s := credit.Print(a)
	at := strings.LastIndex(s, "+")
	switch {
	case s == "1":
		return "0+1", "0+1"
	case at < 0:
		return strconv.Itoa(a.Whole - 1), "1"
	case strings.HasPrefix(s, "0+") && strings.Count(s, "+") == 1:
		half := "0+" + strconv.Itoa(a.Bits[0]+1)
		return half, half
	}
	return s[:at], "0" + s[at:]
}

func TestSplitByItsWords(t *testing.T) {
	for _, a := range append(small(6), right()...) {
		if credit.IsZero(a) || same(a, amount(0, mostBit)) {
			continue
		}
		keep, give, e := credit.Split(a)
		wantKeep, wantGive := splitWords(a)
		if e != api.OK || credit.Print(keep) != wantKeep || credit.Print(give) != wantGive {
			t.Fatalf("Split(%.40s): %.40s, %.40s, %v", credit.Print(a), credit.Print(keep), credit.Print(give), e)
		}
	}
}

// TestCreditComesTogether is E6 of credit: units are given out, split and handed on, and come back in any order; all is there just when all has come back.
func TestCreditComesTogether(t *testing.T) {
	for seed := range 300 {
		r := rand.New(rand.NewSource(int64(30000 + seed)))
		units := 1 + r.Intn(5)
		out, back := []api.Amount{credit.Units(units)}, credit.Units(0)
		for i := 0; len(out) > 0; i++ {
			k := r.Intn(len(out))
			if i < 200 && r.Intn(3) > 0 {
				keep, give, e := credit.Split(out[k])
				if e != api.OK {
					t.Fatal(out[k], e)
				}
				out[k] = keep
				out = append(out, give)
			} else {
				back = must(t, back, out[k])
				out = slices.Delete(out, k, k+1)
			}
			if all := must(t, append(slices.Clone(out), back)...); !same(all, credit.Units(units)) {
				t.Fatalf("%v is left of %d units: %v, %v", all, units, out, back)
			}
			if done := credit.Compare(back, credit.Units(units)) == 0; done != (len(out) == 0) {
				t.Fatalf("%v of %d units, and out are %v", back, units, out)
			}
		}
	}
}

// TestTextsByTheirWords is P17.3 and E9, of all short texts of some letters.
func TestTextsByTheirWords(t *testing.T) {
	form := regexp.MustCompile(`^(0|[1-9][0-9]*)(\+[1-9][0-9]*)*$`)
	count := map[api.Errno]int{}
	var look func(s string, left int)
	look = func(s string, left int) {
		a, e := credit.Parse(s)
		want := api.ErrForm
		if form.MatchString(s) && rises(s) {
			want = api.OK
		}
		if e != want {
			t.Fatalf("Parse(%q): %v, %v, want %v", s, a, e, want)
		}
		if count[e]++; e == api.OK && credit.Print(a) != s || e != api.OK && !same(a, amount(0)) {
			t.Fatalf("Parse(%q): %v", s, a)
		}
		for _, c := range "0129+- _" {
			if left > 0 {
				look(s+string(c), left-1)
			}
		}
	}
	look("", 6)
	if count[api.OK] < 1000 || count[api.ErrForm] < 1000 {
		t.Error(count)
	}
}

// rises tells of a text of short numbers whether those behind the first rise.
func rises(s string) bool {
	last := 0
	for _, part := range strings.Split(s, "+")[1:] {
		n, err := strconv.Atoi(part)
		if err != nil || n <= last {
			return false
		}
		last = n
	}
	return true
}

// TestThereAndBack is E9 of amounts, by chance.
func TestThereAndBack(t *testing.T) {
	for seed := range 2000 {
		r := rand.New(rand.NewSource(int64(40000 + seed)))
		a := someAmount(r, 40)
		if n := len(a.Bits); n > 0 && r.Intn(3) == 0 {
			a.Bits[n-1] = mostBit - r.Intn(3)
		}
		if r.Intn(5) == 0 {
			a.Whole = most - r.Intn(3)
		}
		s := credit.Print(a)
		if b, e := credit.Parse(s); e != api.OK || !same(a, b) || credit.Print(b) != s {
			t.Fatalf("%v, %s, %v, %v", a, s, b, e)
		}
	}
}

// TestNotRightByChance: numbers by chance, of which few are amounts, are right just by the chapter's words; no call panics, or answers anything, of others.
func TestNotRightByChance(t *testing.T) {
	numbers := []int{-1 << 63, -mostBit, -1, 0, 1, 2, 3, 4, mostBit - 1, mostBit, mostBit + 1, most, most + 1, 1<<63 - 1}
	count := map[bool]int{}
	for seed := range 20000 {
		r := rand.New(rand.NewSource(int64(50000 + seed)))
		a := api.Amount{Whole: numbers[r.Intn(len(numbers))]}
		for range r.Intn(4) {
			a.Bits = append(a.Bits, numbers[3+r.Intn(8)])
		}
		want := a.Whole >= 0 && a.Whole <= most
		for i, b := range a.Bits {
			want = want && b >= 1 && b <= mostBit && (i == 0 || a.Bits[i-1] < b)
		}
		count[want]++
		if credit.Right(a) != want {
			t.Fatalf("Right(%v): %v", a, !want)
		}
		if !want {
			sumless(t, api.ErrForm, a, amount(1))
			splitless(t, a, api.ErrForm)
			if credit.IsZero(a) || credit.Print(a) != "" || credit.Compare(a, amount(1)) != 0 || credit.Compare(amount(1), a) != 0 {
				t.Fatal(a)
			}
		}
	}
	if count[true] < 1000 || count[false] < 1000 {
		t.Error(count)
	}
}

// roomy is an amount whose list has room behind its end, with marks there.
func roomy(a api.Amount) api.Amount {
	bits := append(make([]int, 0, len(a.Bits)+6), a.Bits...)
	for i := len(bits); i < cap(bits); i++ {
		bits[:cap(bits)][i] = 700 + i
	}
	return api.Amount{Whole: a.Whole, Bits: bits}
}

func whole(l []api.Amount) string {
	s := ""
	for _, a := range l[:cap(l)] {
		s += fmt.Sprint(a.Whole, len(a.Bits), a.Bits[:cap(a.Bits)])
	}
	return s
}

// wipe writes over Bits, and over what lies behind their end.
func wipe(a api.Amount) {
	for i := range a.Bits[:cap(a.Bits)] {
		a.Bits[:cap(a.Bits)][i] = -9
	}
}

// TestNothingIsShared is P3: what is handed in stays, spare room too; what is answered lies in nothing else.
func TestNothingIsShared(t *testing.T) {
	for seed := range 1000 {
		r := rand.New(rand.NewSource(int64(60000 + seed)))
		l := append(make([]api.Amount, 0, 12), someAmounts(r)...)
		for i := range l {
			l[i] = roomy(l[i])
		}
		for i := len(l); i < cap(l); i++ {
			l[:cap(l)][i] = amount(1, 2, 3)
		}
		before := whole(l)
		sum := must(t, l...)
		text := credit.Print(sum)
		for _, a := range l {
			keep, give, e := credit.Split(a)
			if e == api.OK {
				k := credit.Print(keep)
				wipe(give)
				if credit.Print(keep) != k {
					t.Fatal("both parts lie in one list")
				}
				wipe(keep)
			}
			credit.Compare(a, sum)
			credit.Print(a)
			credit.IsZero(a)
			wipe(must(t, a))
			wipe(must(t, a, amount(0)))
		}
		if after := whole(l); after != before {
			t.Fatalf("%s, was %s", after, before)
		}
		if other := must(t, l...); credit.Print(sum) != text || credit.Print(other) != text {
			t.Fatal("a sum lies in what was handed in")
		} else {
			wipe(other)
		}
		if credit.Print(sum) != text {
			t.Fatal("two sums lie in one list")
		}
		first, _ := credit.Parse(text)
		wipe(first)
		if second, e := credit.Parse(text); e != api.OK || !same(second, sum) {
			t.Fatal(second, e)
		}
	}
}

// TestMuchIsAddedUp: many amounts with many Bits, and many unlike ones of one Bit each, take no longer than their Bits.
func TestMuchIsAddedUp(t *testing.T) {
	var l []api.Amount
	for b := mostBit; b >= 1; b-- {
		l = append(l, amount(0, b))
	}
	full := amount(0, all(1, mostBit)...)
	sums(t, full, l...)
	sums(t, amount(1), append(l, amount(0, mostBit))...)
	sums(t, amount(3, all(1, mostBit-2)...), full, full, full, full)
}
