package graph

import "math/bits"

// set is some of the nodes, a bit each: MaxNodes (60) of them have room in it.
type set uint64

// only is the set of one node.
func only(k int) set { return 1 << k }

// has tells whether the node is in the set.
func (s set) has(k int) bool { return s&only(k) != 0 }

// list is the nodes of the set, rising.
func (s set) list() []int {
	var l []int
	for ; s != 0; s &= s - 1 {
		l = append(l, bits.TrailingZeros64(uint64(s)))
	}
	return l
}
