package order_test

import (
	"math"
	"slices"
	"testing"

	"purlin/api"
	"purlin/order"
)

// rising are names as they must follow one another.
func rising() (l []api.Name) {
	numbers := []int{math.MinInt, -1, 0, 1, 7, math.MaxInt}
	for _, node := range numbers {
		for _, n := range numbers {
			l = append(l, api.Name{Node: node, Number: n})
		}
	}
	return l
}

func TestNames(t *testing.T) {
	l := rising()
	for i, a := range l {
		for j, b := range l {
			if c := order.Names(a, b); (c < 0) != (i < j) || (c > 0) != (i > j) {
				t.Errorf("%v, %v: %d", a, b, c)
			}
		}
	}
}

func TestKeys(t *testing.T) {
	m := map[api.Name]int{}
	if l := order.Keys(m); len(l) != 0 {
		t.Error(l)
	}
	for i, n := range rising() {
		m[n] = i
	}
	if l := order.Keys(m); !slices.Equal(l, rising()) {
		t.Error(l)
	}
	if l := order.Keys[struct{}](nil); len(l) != 0 {
		t.Error(l)
	}
}
