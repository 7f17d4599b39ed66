package see

import "quirestock/api"

// name of an operation: whose it is, and how many of that transaction's stand
// ahead of it. It stays the same where operations of others change places with it.
type name struct{ tx, nth int }

// view is what a run lets one see: by the name of each Read the name of the write
// that it is from, and of each item the name of its last write.
type view struct {
	from map[name]name
	last [api.MaxItem]name
}

// viewOf is the view of a run, or run.Check's error.
func viewOf(l []api.Op) (view, api.Errno) {
	reads, err := Reads(l)
	if err != api.OK {
		return view{}, err
	}
	last, err := Last(l)
	if err != api.OK {
		return view{}, err
	}
	names := namesOf(l)
	v := view{from: make(map[name]name, len(reads))}
	for _, r := range reads {
		v.from[names[r.At]] = nameAt(names, r.From)
	}
	for item, at := range last {
		v.last[item] = nameAt(names, at)
	}
	return v, api.OK
}

// same tells whether both have the same Reads, each from the same write or none,
// and the same last writes.
func (v view) same(w view) bool {
	if len(v.from) != len(w.from) || v.last != w.last {
		return false
	}
	for read, write := range v.from {
		other, is := w.from[read]
		if !is || other != write {
			return false
		}
	}
	return true
}

// namesOf tells the name of each operation of a right run.
func namesOf(l []api.Op) []name {
	var many [api.MaxTx]int
	names := make([]name, len(l))
	for i, o := range l {
		names[i] = name{tx: o.Tx, nth: many[o.Tx]}
		many[o.Tx]++
	}
	return names
}

// nameAt is the name at a place, or, where that is none, a name that no operation
// has.
func nameAt(names []name, at int) name {
	if at == none {
		return name{tx: none}
	}
	return names[at]
}
