package run

import "quirestock/api"

// ends tells of each transaction what it has ended by, Commit or Abort; 0: it has
// not.
type ends [api.MaxTx]int

// pairs of transactions: whether there is something from the first one to the
// second one.
type pairs [api.MaxTx][api.MaxTx]bool

// behind is what has ended once the operation is done as well.
func (e ends) behind(o api.Op) ends {
	if o.Kind == api.Commit || o.Kind == api.Abort {
		e[o.Tx] = o.Kind
	}
	return e
}

// endsOf is what has ended behind the whole list.
func endsOf(l []api.Op) ends {
	var ended ends
	for _, o := range l {
		ended = ended.behind(o)
	}
	return ended
}

// committed tells whether the transaction has committed.
func (e ends) committed(tx int) bool { return e[tx] == api.Commit }

// allCommitted tells whether each of these transactions has committed.
func (e ends) allCommitted(these [api.MaxTx]bool) bool {
	for tx, is := range these {
		if is && !e.committed(tx) {
			return false
		}
	}
	return true
}
