package lock

import (
	"slices"

	"quirestock/api"
)

// none is the place of a lock that there is not.
const none = -1

// isRight tells whether the item is in the form of P45, but for its number.
func isRight(of api.LockItem) bool {
	if len(of.Held) == 0 || !areRight(of.Held) || !areRight(of.Queue) || !allFit(of.Held) {
		return false
	}
	return len(of.Queue) == 0 || !canBeGiven(of, of.Queue[0])
}

// areRight tells whether each of these is a lock, and each transaction has one at
// most.
func areRight(locks []api.Lock) bool {
	var has [api.MaxTx]bool
	for _, l := range locks {
		if !isTx(l.Tx) || !isMode(l.Mode) || has[l.Tx] {
			return false
		}
		has[l.Tx] = true
	}
	return true
}

// allFit tells whether each two of these locks fit.
func allFit(locks []api.Lock) bool {
	for k, l := range locks {
		for _, other := range locks[:k] {
			if !fit(l.Mode, other.Mode) {
				return false
			}
		}
	}
	return true
}

// placeIn is the place of the transaction's lock among these, or none.
func placeIn(locks []api.Lock, tx int) int {
	for k, l := range locks {
		if l.Tx == tx {
			return k
		}
	}
	return none
}

// holds tells whether the transaction has a lock in Held.
func holds(of api.LockItem, tx int) bool { return placeIn(of.Held, tx) != none }

// wish is the mode that the lock wishes.
func wish(of api.LockItem, l api.Lock) int {
	k := placeIn(of.Held, l.Tx)
	if k == none {
		return l.Mode
	}
	return join(of.Held[k].Mode, l.Mode)
}

// inTheWay are the other transactions whose locks in Held don't fit what the lock
// wishes.
func inTheWay(of api.LockItem, l api.Lock) []int {
	wished := wish(of, l)
	var txs []int
	for _, held := range of.Held {
		if held.Tx != l.Tx && !fit(held.Mode, wished) {
			txs = append(txs, held.Tx)
		}
	}
	return txs
}

// canBeGiven tells whether nobody is in the lock's way.
func canBeGiven(of api.LockItem, l api.Lock) bool { return len(inTheWay(of, l)) == 0 }

// give gives the lock in the item, whose lists are its own.
func give(of *api.LockItem, l api.Lock) {
	given := api.Lock{Tx: l.Tx, Mode: wish(*of, l)}
	k := placeIn(of.Held, l.Tx)
	if k == none {
		of.Held = append(of.Held, given)
	} else {
		of.Held[k] = given
	}
}

// ask asks for the lock in the item, whose lists are its own, and tells whether it
// was given. An item where nothing is Held is one that was not in the table yet.
func ask(of *api.LockItem, l api.Lock) bool {
	if canBeGiven(*of, l) && (holds(*of, l.Tx) || len(of.Queue) == 0) {
		give(of, l)
		return true
	}
	of.Queue = slices.Insert(of.Queue, placeFor(*of, l.Tx), l)
	return false
}

// placeFor is the place in the Queue for a lock of the transaction. Who has
// something in Held goes ahead of those who have not: they may wait for what it
// has, and if it stood behind them, too, none of them would ever go on.
func placeFor(of api.LockItem, tx int) int {
	if !holds(of, tx) {
		return len(of.Queue)
	}
	k := 0
	for k < len(of.Queue) && holds(of, of.Queue[k].Tx) {
		k++
	}
	return k
}

// without is the item with no lock of the transaction, and with lists of its own.
func without(of api.LockItem, tx int) api.LockItem {
	isOfTx := func(l api.Lock) bool { return l.Tx == tx }
	of.Held = slices.DeleteFunc(copyOf(of.Held), isOfTx)
	of.Queue = slices.DeleteFunc(copyOf(of.Queue), isOfTx)
	return of
}

// wake gives to the Queue's first one as long as that can be, in an item whose
// lists are its own, and tells to whom.
func wake(of *api.LockItem) []int {
	var to []int
	for len(of.Queue) > 0 && canBeGiven(*of, of.Queue[0]) {
		first := of.Queue[0]
		give(of, first)
		of.Queue = of.Queue[1:]
		to = append(to, first.Tx)
	}
	return to
}

// copyOf is a list of the same locks in new memory.
func copyOf(locks []api.Lock) []api.Lock { return append([]api.Lock(nil), locks...) }
