package tree

import (
	"cmp"
	"slices"
	"strings"
)

// How many keys a node has, the top apart: it may have fewer. A node with one
// too many parts into two that have the least, with a key between them; one with
// one too few, its neighbour with the least and the key between make the most.
const (
	least = 2
	most  = 4
)

type entry struct {
	key  int
	text string
}

// node has its keys rising; what is below at i has the keys between those of
// entries i-1 and i.
type node struct {
	entries []entry
	below   []*node
}

// last tells whether it is on the last level.
func (n *node) last() bool { return len(n.below) == 0 }

// find tells at which place the key is, or would be, and whether it is there.
func (n *node) find(key int) (int, bool) {
	return slices.BinarySearchFunc(n.entries, key, func(e entry, key int) int { return cmp.Compare(e.key, key) })
}

// seek tells the node that has the key, or nil, and the key's place there.
func (n *node) seek(key int) (*node, int) {
	at, has := n.find(key)
	if has {
		return n, at
	}
	if n.last() {
		return nil, 0
	}
	return n.below[at].seek(key)
}

// put takes in a key that is not there. The node itself may then have one key
// too many: who is above it sees to that.
func (n *node) put(e entry) {
	at, _ := n.find(e.key)
	if n.last() {
		n.entries = slices.Insert(n.entries, at, e)
		return
	}
	n.below[at].put(e)
	if len(n.below[at].entries) > most {
		n.split(at)
	}
}

// split parts what is below at in two, and takes the key between them up.
func (n *node) split(at int) {
	left := n.below[at]
	right := &node{entries: slices.Clone(left.entries[least+1:])}
	n.entries = slices.Insert(n.entries, at, left.entries[least])
	left.entries = slices.Delete(left.entries, least, len(left.entries))
	if !left.last() {
		right.below = slices.Clone(left.below[least+1:])
		left.below = slices.Delete(left.below, least+1, len(left.below))
	}
	n.below = slices.Insert(n.below, at+1, right)
}

// drop takes away a key that is there. The node itself may then have one key too
// few: who is above it sees to that.
func (n *node) drop(key int) {
	at, has := n.find(key)
	if n.last() {
		n.entries = slices.Delete(n.entries, at, at+1)
		return
	}
	if has {
		n.entries[at] = n.below[at].takeLast()
	} else {
		n.below[at].drop(key)
	}
	n.mend(at)
}

// takeLast takes away the greatest key, and answers it.
func (n *node) takeLast() entry {
	end := len(n.entries) - 1
	if n.last() {
		e := n.entries[end]
		n.entries = slices.Delete(n.entries, end, end+1)
		return e
	}
	e := n.below[end+1].takeLast()
	n.mend(end + 1)
	return e
}

// mend gives what is below at a key, if it has one too few: a neighbour's, if
// that one can spare it; else it is made one with a neighbour.
func (n *node) mend(at int) {
	switch {
	case len(n.below[at].entries) >= least:
	case at > 0 && len(n.below[at-1].entries) > least:
		n.shiftRight(at - 1)
	case at < len(n.entries) && len(n.below[at+1].entries) > least:
		n.shiftLeft(at)
	case at > 0:
		n.join(at - 1)
	default:
		n.join(at)
	}
}

// shiftRight moves a key from what is below at to its right neighbour, by way of
// the key between them.
func (n *node) shiftRight(at int) {
	left, right := n.below[at], n.below[at+1]
	end := len(left.entries) - 1
	right.entries = slices.Insert(right.entries, 0, n.entries[at])
	n.entries[at] = left.entries[end]
	left.entries = slices.Delete(left.entries, end, end+1)
	if !left.last() {
		right.below = slices.Insert(right.below, 0, left.below[end+1])
		left.below = slices.Delete(left.below, end+1, end+2)
	}
}

// shiftLeft moves a key to what is below at from its right neighbour, by way of
// the key between them.
func (n *node) shiftLeft(at int) {
	left, right := n.below[at], n.below[at+1]
	left.entries = append(left.entries, n.entries[at])
	n.entries[at] = right.entries[0]
	right.entries = slices.Delete(right.entries, 0, 1)
	if !right.last() {
		left.below = append(left.below, right.below[0])
		right.below = slices.Delete(right.below, 0, 1)
	}
}

// join makes what is below at, its right neighbour and the key between them one
// node.
func (n *node) join(at int) {
	left, right := n.below[at], n.below[at+1]
	left.entries = append(append(left.entries, n.entries[at]), right.entries...)
	left.below = append(left.below, right.below...)
	n.entries = slices.Delete(n.entries, at, at+1)
	n.below = slices.Delete(n.below, at+1, at+2)
}

// from hands on the keys that are not below that one, rising, and tells whether
// more are asked for.
func (n *node) from(key int, yield func(int, string) bool) bool {
	at, _ := n.find(key)
	for i := at; i <= len(n.entries); i++ {
		if !n.last() && !n.below[i].from(key, yield) {
			return false
		}
		if i < len(n.entries) && !n.entries[i].hand(yield) {
			return false
		}
	}
	return true
}

// hand hands the key on, with a copy of its text, as the tree's own memory is
// not given away.
func (e entry) hand(yield func(int, string) bool) bool {
	return yield(e.key, strings.Clone(e.text))
}
