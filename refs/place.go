package refs

import "purlin/api"

// place is whose table it is, and how many nodes there are.
type place struct{ own, nodes int }

func (p place) isNode(k int) bool { return k >= 0 && k < p.nodes }

func (p place) isOther(k int) bool { return p.isNode(k) && k != p.own }

// owns tells whether all of some variables are this node's own.
func (p place) owns(vars ...api.Name) bool {
	for _, v := range vars {
		if v.Node != p.own {
			return false
		}
	}
	return true
}
