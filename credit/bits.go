package credit

import (
	"cmp"

	"purlin/api"
)

func bit(b int) api.Amount { return api.Amount{Bits: []int{b}} }

// copied is a row of Bits in memory of its own; nil of none, so that each amount has one form.
func copied(bits []int) []int { return append([]int(nil), bits...) }

// carry adds up Bits that rise, some of them more than once: two of one Bit are one of the Bit ahead, and two halves a unit. Whatever comes is not ahead of what is kept, so that a look at the last one is enough.
func carry(bits []int) (units int, rest []int) {
	for _, b := range bits {
		for last := len(rest) - 1; last >= 0 && rest[last] == b; last-- {
			rest = rest[:last]
			b--
		}
		if b == 0 {
			units++
		} else {
			rest = append(rest, b)
		}
	}
	return units, rest
}

// compareBits tells which of two rows that rise is greater. All that can stand behind a Bit is less than it: so the first place where they part tells, and there the lesser Bit is the greater part.
func compareBits[N cmp.Ordered](a, b []N) int {
	for i := range min(len(a), len(b)) {
		if c := cmp.Compare(b[i], a[i]); c != 0 {
			return c
		}
	}
	return cmp.Compare(len(a), len(b))
}
