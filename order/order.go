// Package order brings names into the order that the layers tell them in.
package order

import (
	"cmp"
	"maps"
	"slices"

	"purlin/api"
)

// Names compares two: by Node, then by Number.
func Names(a, b api.Name) int {
	return cmp.Or(cmp.Compare(a.Node, b.Node), cmp.Compare(a.Number, b.Number))
}

// Keys are those of a map, rising.
func Keys[V any](m map[api.Name]V) []api.Name { return slices.SortedFunc(maps.Keys(m), Names) }
