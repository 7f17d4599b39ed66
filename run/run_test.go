package run

import (
	"math"
	"math/rand"
	"slices"
	"strconv"
	"strings"
	"sync"
	"testing"

	"quirestock/api"
)

// ops reads a run as the chapters write one: r1.2 w11.19 c1 a2.
func ops(s string) []api.Op {
	var l []api.Op
	for _, word := range strings.Fields(s) {
		tx, item, _ := strings.Cut(word[1:], ".")
		o := api.Op{Kind: strings.Index("rwca", word[:1]) + 1}
		o.Tx, _ = strconv.Atoi(tx)
		o.Item, _ = strconv.Atoi(item)
		l = append(l, o)
	}
	return l
}

// doneAhead tells whether the transaction has done such a thing ahead of place i.
func doneAhead(l []api.Op, i, tx, kind int) bool {
	return slices.ContainsFunc(l[:i], func(o api.Op) bool { return o.Tx == tx && o.Kind == kind })
}

func endedAhead(l []api.Op, i, tx int) bool {
	return doneAhead(l, i, tx, 3) || doneAhead(l, i, tx, 4)
}

func toldCheck(l []api.Op) api.Errno {
	if len(l) > 200 {
		return api.ErrLarge
	}
	for i, o := range l {
		switch {
		case o.Tx < 0 || o.Tx > 11 || o.Item < 0 || o.Item > 19:
			return api.ErrArg
		case o.Kind < 1 || o.Kind > 4 || o.Kind > 2 && o.Item != 0 || endedAhead(l, i, o.Tx):
			return api.ErrForm
		}
	}
	return api.OK
}

func toldClash(a, b api.Op) bool {
	kinds := [2]int{a.Kind, b.Kind}
	writes := kinds == [2]int{1, 2} || kinds == [2]int{2, 1} || kinds == [2]int{2, 2}
	return writes && a.Tx != b.Tx && a.Item == b.Item
}

// toldEdge goes by each two operations alone.
func toldEdge(l []api.Op, from, to int) bool {
	if from == to || !doneAhead(l, len(l), from, 3) || !doneAhead(l, len(l), to, 3) {
		return false
	}
	for i := range l {
		for k := i + 1; k < len(l); k++ {
			if l[i].Tx == from && l[k].Tx == to && toldClash(l[i], l[k]) {
				return true
			}
		}
	}
	return false
}

func toldEdges(l []api.Op) []api.Edge {
	var edges []api.Edge
	for from := range 12 {
		for to := range 12 {
			if toldEdge(l, from, to) {
				edges = append(edges, api.Edge{From: from, To: to})
			}
		}
	}
	return edges
}

// toldSerial places the least transaction to which no edge goes from one that is still to be placed.
func toldSerial(l []api.Op) ([]int, api.Errno) {
	var left, serial []int
	for tx := range 12 {
		if doneAhead(l, len(l), tx, 3) {
			left = append(left, tx)
		}
	}
	for len(left) > 0 {
		at := slices.IndexFunc(left, func(to int) bool {
			return !slices.ContainsFunc(left, func(from int) bool { return toldEdge(l, from, to) })
		})
		if at < 0 {
			return nil, api.ErrLoop
		}
		serial = append(serial, left[at])
		left = slices.Delete(left, at, at+1)
	}
	return serial, api.OK
}

// named tells of each operation whose it is, and the how many-th of that one.
func named(l []api.Op) map[[2]int]int {
	at := map[[2]int]int{}
	for i, o := range l {
		n := 0
		for _, ahead := range l[:i] {
			if ahead.Tx == o.Tx {
				n++
			}
		}
		at[[2]int{o.Tx, n}] = i
	}
	return at
}

func toldLike(a, b []api.Op) bool {
	inA, inB := named(a), named(b)
	if len(inA) != len(inB) {
		return false
	}
	for name, i := range inA {
		k, is := inB[name]
		if !is || a[i] != b[k] {
			return false
		}
		for other, j := range inA {
			if toldClash(a[i], a[j]) && (i < j) != (k < inB[other]) {
				return false
			}
		}
	}
	return true
}

// swapped are all runs that one comes to from l by changing two neighbours that may be changed, again and again.
func swapped(l []api.Op) [][]api.Op {
	found := [][]api.Op{l}
	for i := 0; i < len(found); i++ {
		for k := 1; k < len(l); k++ {
			next := slices.Clone(found[i])
			next[k-1], next[k] = next[k], next[k-1]
			apart := next[k-1].Tx != next[k].Tx && !toldClash(next[k-1], next[k])
			if apart && !slices.ContainsFunc(found, func(o []api.Op) bool { return slices.Equal(o, next) }) {
				found = append(found, next)
			}
		}
	}
	return found
}

// toldFrom is the transaction of the last write of that item ahead of place i that is not gone by then, or -1.
func toldFrom(l []api.Op, i int) int {
	from := -1
	for _, o := range l[:i] {
		if o.Kind == 2 && o.Item == l[i].Item && !doneAhead(l, i, o.Tx, 4) {
			from = o.Tx
		}
	}
	return from
}

func toldKinds(l []api.Op) api.RunKind {
	k := api.RunKind{Recoverable: true, Cascadeless: true, Strict: true}
	for i, o := range l {
		if o.Kind > 2 {
			continue
		}
		from := toldFrom(l, i)
		if from < 0 || from == o.Tx {
			continue
		}
		if !endedAhead(l, i, from) {
			k.Strict = false
		}
		if o.Kind == 2 {
			continue
		}
		if !doneAhead(l, i, from, 3) {
			k.Cascadeless = false
		}
		for c, later := range l {
			if later.Tx == o.Tx && later.Kind == 3 && !doneAhead(l, c, from, 3) {
				k.Recoverable = false
			}
		}
	}
	return k
}

// wantTold holds all calls to what is told of a right run.
func wantTold(t *testing.T, l []api.Op) {
	t.Helper()
	if err := Check(l); err != api.OK {
		t.Fatalf("Check(%v): %d", l, err)
	}
	edges, err := Edges(l)
	if told := toldEdges(l); !slices.Equal(edges, told) || err != api.OK {
		t.Fatalf("Edges(%v): %v %d, want %v", l, edges, err, told)
	}
	serial, err := Serial(l)
	if told, toldErr := toldSerial(l); !slices.Equal(serial, told) || err != toldErr {
		t.Fatalf("Serial(%v): %v %d, want %v %d", l, serial, err, told, toldErr)
	}
	kind, err := Kinds(l)
	if told := toldKinds(l); kind != told || err != api.OK {
		t.Fatalf("Kinds(%v): %v %d, want %v", l, kind, err, told)
	}
	if like, err := Like(l, slices.Clone(l)); !like || err != api.OK {
		t.Fatalf("Like(%v) itself: %v %d", l, like, err)
	}
}

func wantLike(t *testing.T, a, b []api.Op, want bool) {
	t.Helper()
	if like, err := Like(a, b); like != want || err != api.OK {
		t.Fatalf("Like(%v, %v): %v %d, want %v", a, b, like, err, want)
	}
	if like, err := Like(b, a); like != want || err != api.OK {
		t.Fatalf("Like(%v, %v): %v %d, want %v", b, a, like, err, want)
	}
}

// wantRefused holds all calls to Check's error.
func wantRefused(t *testing.T, l []api.Op, want api.Errno) {
	t.Helper()
	if err := Check(l); err != want {
		t.Errorf("Check(%v): %d, want %d", l, err, want)
	}
	if edges, err := Edges(l); edges != nil || err != want {
		t.Errorf("Edges(%v): %v %d, want %d", l, edges, err, want)
	}
	if serial, err := Serial(l); serial != nil || err != want {
		t.Errorf("Serial(%v): %v %d, want %d", l, serial, err, want)
	}
	if kind, err := Kinds(l); kind != (api.RunKind{}) || err != want {
		t.Errorf("Kinds(%v): %v %d, want %d", l, kind, err, want)
	}
	for _, right := range [][]api.Op{nil, ops("r0.0 c0")} {
		if like, err := Like(l, right); like || err != want {
			t.Errorf("Like(%v, %v): %v %d, want %d", l, right, like, err, want)
		}
		if like, err := Like(right, l); like || err != want {
			t.Errorf("Like(%v, %v): %v %d, want %d", right, l, like, err, want)
		}
	}
	if like, err := Like(l, l); like || err != want {
		t.Errorf("Like(%v) itself: %v %d, want %d", l, like, err, want)
	}
}

// allOps are the operations of that many transactions and items.
func allOps(txs, items int) []api.Op {
	var l []api.Op
	for tx := range txs {
		for item := range items {
			l = append(l, api.Op{Tx: tx, Kind: 1, Item: item}, api.Op{Tx: tx, Kind: 2, Item: item})
		}
		l = append(l, api.Op{Tx: tx, Kind: 3}, api.Op{Tx: tx, Kind: 4})
	}
	return l
}

// runs hands on each right run of at most that many of these operations.
func runs(of []api.Op, most int, do func([]api.Op)) {
	var more func(l []api.Op)
	more = func(l []api.Op) {
		do(l)
		for _, o := range of {
			if len(l) < most && !endedAhead(l, len(l), o.Tx) {
				more(append(slices.Clone(l), o))
			}
		}
	}
	more(nil)
}

// someRun is a right run of at most that many operations, by chance: the greater calm is, the later transactions end.
func someRun(r *rand.Rand, txs, items, most, calm int) []api.Op {
	names, things := r.Perm(12)[:txs], r.Perm(20)[:items]
	var l []api.Op
	for range most {
		o := api.Op{Tx: names[r.Intn(txs)], Kind: 1 + r.Intn(2), Item: things[r.Intn(items)]}
		if r.Intn(calm) == 0 {
			o.Kind, o.Item = 3+r.Intn(5)/4, 0
		}
		if !endedAhead(l, len(l), o.Tx) {
			l = append(l, o)
		}
	}
	for _, tx := range names {
		if len(l) < most && r.Intn(4) > 0 && !endedAhead(l, len(l), tx) {
			l = append(l, api.Op{Tx: tx, Kind: 3})
		}
	}
	return l
}

func TestP36Large(t *testing.T) {
	for _, many := range []int{201, 202, 400, 100000} {
		wantRefused(t, make([]api.Op, many), api.ErrLarge)
		wantRefused(t, slices.Repeat(ops("r0.0"), many), api.ErrLarge)
		// How many they are is looked at ahead of what they are.
		wantRefused(t, slices.Repeat([]api.Op{{Tx: 12, Kind: 1}}, many), api.ErrLarge)
		wantRefused(t, slices.Repeat(ops("c0"), many), api.ErrLarge)
	}
	for _, many := range []int{0, 1, 199, 200} {
		wantTold(t, slices.Repeat(ops("r0.0"), many))
	}
	wantTold(t, []api.Op{})
	wantRefused(t, append(slices.Repeat(ops("r0.0"), 199), api.Op{Tx: 12, Kind: 1}), api.ErrArg)
	wantRefused(t, append(slices.Repeat(ops("r0.0"), 199), api.Op{}), api.ErrForm)
}

// Each operation of odd numbers, alone and behind right ones.
func TestP36EachOperation(t *testing.T) {
	odd := []int{math.MinInt, -1 << 32, -64, -1, 12, 19, 20, 21, 64, 256, 1 << 32, 1<<32 + 1, math.MaxInt}
	for _, x := range odd {
		for kind := range 6 {
			wantRefused(t, []api.Op{{Tx: x, Kind: kind}}, api.ErrArg)
			if x != 12 && x != 19 {
				wantRefused(t, []api.Op{{Item: x, Kind: kind}}, api.ErrArg)
			}
		}
		wantRefused(t, []api.Op{{Kind: x}}, api.ErrForm)
		wantRefused(t, append(ops("r1.1 w2.3 c1"), api.Op{Kind: x}), api.ErrForm)
		wantRefused(t, append(ops("r1.1 w2.3 c1"), api.Op{Tx: x, Kind: 1}), api.ErrArg)
	}
	for tx := -2; tx < 15; tx++ {
		for item := -2; item < 23; item++ {
			for kind := -2; kind < 8; kind++ {
				l := []api.Op{{Tx: tx, Kind: kind, Item: item}}
				if want := toldCheck(l); want != api.OK {
					wantRefused(t, l, want)
				} else {
					wantTold(t, l)
				}
			}
		}
	}
}

func TestP36Ended(t *testing.T) {
	for _, end := range []string{"c", "a"} {
		for tx := range 12 {
			name := strconv.Itoa(tx)
			for _, again := range []string{"r" + name + ".0", "w" + name + ".19", "c" + name, "a" + name} {
				wantRefused(t, ops(end+name+" "+again), api.ErrForm)
				wantRefused(t, ops("w"+name+".3 "+end+name+" "+again), api.ErrForm)
				other := strconv.Itoa((tx + 1) % 12)
				wantRefused(t, ops(end+name+" r"+other+".1 c"+other+" "+again), api.ErrForm)
			}
		}
	}
	wantTold(t, ops("c0 a1 c2 a3 c4 a5 c6 a7 c8 a9 c10 a11"))
	wantTold(t, ops("r11.19 w11.19 r11.19 c11 w0.19 a0"))
}

// Of several errors the one of the first operation that has one is told; within it ErrArg goes ahead.
func TestP36WhichErrorIsFirst(t *testing.T) {
	arg, form := api.Op{Tx: 12, Kind: 1}, api.Op{Tx: 1}
	wantRefused(t, []api.Op{arg, form}, api.ErrArg)
	wantRefused(t, []api.Op{form, arg}, api.ErrForm)
	wantRefused(t, append(ops("c0 r0.0"), arg), api.ErrForm)
	wantRefused(t, append(ops("c0"), arg, ops("r0.0")[0]), api.ErrArg)
	wantRefused(t, []api.Op{{Tx: 0, Kind: 3, Item: 20}}, api.ErrArg)
	wantRefused(t, []api.Op{{Tx: 0, Kind: 4, Item: 19}}, api.ErrForm)
	wantRefused(t, []api.Op{{Tx: 0, Kind: 3}, {Tx: 0, Kind: 0, Item: -1}}, api.ErrArg)
	wantRefused(t, []api.Op{{Tx: -1, Kind: 9, Item: 20}}, api.ErrArg)
	wantRefused(t, ops("w0.1 r1.1 w1.2 r0.2 c0 c1 c1"), api.ErrForm)
}

func TestP37Edges(t *testing.T) {
	for s, want := range map[string][]api.Edge{
		"":                               nil,
		"w0.1 r1.1 w1.2 r2.2 w2.1 c1 c0": {{From: 0, To: 1}},
		"w0.1 r1.1 c1 c0":                {{From: 0, To: 1}},
		"r0.1 w1.1 c1 c0":                {{From: 0, To: 1}},
		"w0.1 w1.1 c1 c0":                {{From: 0, To: 1}},
		"r0.1 r1.1 c1 c0":                nil,
		"w0.1 r1.2 c1 c0":                nil,
		"w0.1 r0.1 w0.1 c0":              nil,
		// Who does not commit has no edge, though it stands between two that do.
		"w0.1 r1.1":                      nil,
		"w0.1 r1.1 c0":                   nil,
		"w0.1 r1.1 c1":                   nil,
		"w0.1 c0 r1.1 a1":                nil,
		"w0.1 a0 r1.1 c1":                nil,
		"w0.1 w1.1 r2.1 a1 c0 c2":        {{From: 0, To: 2}},
		"w0.1 r1.1 w1.2 r2.2 c0 a1 c2":   nil,
		"w1.0 r0.0 w0.0 c0 c1":           {{From: 1, To: 0}},
		"w11.19 r0.19 w11.19 c0 c11":     {{From: 0, To: 11}, {From: 11, To: 0}},
		"w2.1 w1.1 w0.1 w2.1 c0 c1 c2":   {{From: 0, To: 2}, {From: 1, To: 0}, {From: 1, To: 2}, {From: 2, To: 0}, {From: 2, To: 1}},
		"w0.1 r1.1 w0.1 r1.1 r1.1 c0 c1": {{From: 0, To: 1}, {From: 1, To: 0}},
		// The item 0 of a Commit is none.
		"w0.0 c1 c0": nil,
		"c1 w0.0 c0": nil,
	} {
		l := ops(s)
		wantTold(t, l)
		if edges, err := Edges(l); !slices.Equal(edges, want) || err != api.OK {
			t.Errorf("Edges(%s): %v %d, want %v", s, edges, err, want)
		}
	}
}

func TestP38Serial(t *testing.T) {
	for _, is := range []struct {
		run  string
		want []int
		err  api.Errno
	}{
		{"", nil, api.OK},
		{"w0.1 r1.1 c1 c0", []int{0, 1}, api.OK},
		{"w0.1 r1.1 w1.2 r2.2 w2.1 c1 c0", []int{0, 1}, api.OK},
		{"w0.1 r1.1 w1.2 r2.2 w2.1 w0.2 c1 c0", nil, api.ErrLoop},
		{"w1.1 r0.1 c0 c1", []int{1, 0}, api.OK},
		// No edges: by their numbers, whoever commits first.
		{"c11 c3 c7", []int{3, 7, 11}, api.OK},
		{"w0.0 r1.0 a0", nil, api.OK},
		{"a0 c1", []int{1}, api.OK},
		{"w5.1 r2.1 w2.2 r9.2 c5 c2 c9 c0", []int{0, 5, 2, 9}, api.OK},
		// The least that can stand there.
		{"w3.1 r1.1 c0 c1 c2 c3", []int{0, 2, 3, 1}, api.OK},
		// A loop through one that does not commit is none.
		{"w0.1 r1.1 w1.2 r0.2 c0 a1", []int{0}, api.OK},
		{"w0.1 r1.1 w1.2 r0.2 c0", []int{0}, api.OK},
		{"w0.1 r1.1 w1.2 r0.2 c0 c1", nil, api.ErrLoop},
		{"r0.1 r1.1 w0.1 w1.1 c0 c1 c2", nil, api.ErrLoop},
		{"r0.0 w1.0 r1.1 w2.1 r2.2 w0.2 c0 c1 c2", nil, api.ErrLoop},
		{"r0.0 w1.0 r1.1 w2.1 r2.2 w0.2 c0 a1 c2", []int{2, 0}, api.OK},
	} {
		l := ops(is.run)
		wantTold(t, l)
		if serial, err := Serial(l); !slices.Equal(serial, is.want) || err != is.err {
			t.Errorf("Serial(%s): %v %d, want %v %d", is.run, serial, err, is.want, is.err)
		}
	}
}

func TestP39Like(t *testing.T) {
	for _, is := range []struct {
		a, b string
		want bool
	}{
		{"", "", true},
		{"r0.1 r1.1 w0.2", "r1.1 r0.1 w0.2", true},
		{"r0.1 w1.1", "w1.1 r0.1", false},
		{"w0.1 w1.1", "w1.1 w0.1", false},
		{"w0.1 w1.2", "w1.2 w0.1", true},
		// What ends clashes with nothing, nor with its item 0.
		{"w0.0 c1", "c1 w0.0", true},
		{"c0 c1", "c1 c0", true},
		{"c0 a1", "a1 c0", true},
		{"w0.1 c0 r1.1 c1", "w0.1 r1.1 c1 c0", true},
		// Each one's own order is kept, though its own do not clash.
		{"r0.1 r0.2", "r0.2 r0.1", false},
		{"r0.1 w0.1", "w0.1 r0.1", false},
		// More, fewer, and other ones.
		{"r0.1", "", false},
		{"r0.1", "r0.1 r0.1", false},
		{"r0.1 r1.1", "r0.1 r0.1", false},
		{"r0.1", "r1.1", false},
		{"r0.1", "r0.2", false},
		{"r0.1", "w0.1", false},
		{"c0", "a0", false},
		{"r0.1 c0", "r0.1", false},
		// The same operation more than once: the first stays the first.
		{"w0.1 r1.1 w0.1", "r1.1 w0.1 w0.1", false},
		{"w0.1 r1.1 w0.1", "w0.1 w0.1 r1.1", false},
		{"r0.1 r1.1 r0.1 w2.3", "w2.3 r1.1 r0.1 r0.1", true},
		// Who does not commit counts.
		{"r0.1 w1.1 a0 a1", "w1.1 r0.1 a0 a1", false},
		{"w0.1 r1.1 c1 c0", "w0.1 c0 r1.1 c1", true},
		{"w0.1 r1.2 w2.1 r0.2 c0 c1 c2", "r1.2 w0.1 r0.2 c0 w2.1 c2 c1", true},
	} {
		wantLike(t, ops(is.a), ops(is.b), is.want)
		if toldLike(ops(is.a), ops(is.b)) != is.want {
			t.Errorf("told of %s and %s", is.a, is.b)
		}
	}
}

func TestP39WhichErrorIsFirst(t *testing.T) {
	wrong := map[api.Errno][]api.Op{
		api.ErrLarge: make([]api.Op, 201),
		api.ErrArg:   {{Tx: 12, Kind: 1}},
		api.ErrForm:  ops("c0 c0"),
	}
	for want, a := range wrong {
		for _, b := range wrong {
			if like, err := Like(a, b); like || err != want {
				t.Errorf("Like(%v, %v): %v %d, want %d", a, b, like, err, want)
			}
		}
	}
}

// Runs are alike where one comes from the one to the other by changing neighbours of unlike transactions that do not clash.
func TestP39LikeIsChangingNeighbours(t *testing.T) {
	r := rand.New(rand.NewSource(39))
	for range 250 {
		l := someRun(r, 1+r.Intn(3), 1+r.Intn(2), 6, 6)
		to := swapped(l)
		runsOf(l, func(other []api.Op) {
			want := slices.ContainsFunc(to, func(o []api.Op) bool { return slices.Equal(o, other) })
			wantLike(t, l, other, want)
		})
	}
}

// runsOf hands on each right run that has these operations, in any order.
func runsOf(l []api.Op, do func([]api.Op)) {
	l = slices.Clone(l)
	var place func(at int)
	place = func(at int) {
		if at == len(l) {
			if toldCheck(l) == api.OK {
				do(l)
			}
			return
		}
		for i := at; i < len(l); i++ {
			l[at], l[i] = l[i], l[at]
			place(at + 1)
			l[at], l[i] = l[i], l[at]
		}
	}
	place(0)
}

// Long runs, some neighbours changed; now and then ones that may not be. The seed is fixed.
func TestP39LongRuns(t *testing.T) {
	r := rand.New(rand.NewSource(3939))
	alike := 0
	for range 150 {
		a := someRun(r, 1+r.Intn(12), 1+r.Intn(20), 200, 40)
		b := slices.Clone(a)
		for range r.Intn(100) {
			k := 1 + r.Intn(max(len(b)-1, 1))
			if k < len(b) && b[k-1].Tx != b[k].Tx && (!toldClash(b[k-1], b[k]) || r.Intn(40) == 0) {
				b[k-1], b[k] = b[k], b[k-1]
			}
		}
		want := toldLike(a, b)
		wantLike(t, a, b, want)
		if want {
			alike++
		}
		wantLike(t, a, b[:len(b)-1], false)
	}
	if alike < 30 || alike > 140 {
		t.Errorf("%d of 150 are alike: the runs say too little", alike)
	}
}

func TestP40Kinds(t *testing.T) {
	none := api.RunKind{}
	rec := api.RunKind{Recoverable: true}
	cas := api.RunKind{Recoverable: true, Cascadeless: true}
	all := api.RunKind{Recoverable: true, Cascadeless: true, Strict: true}
	for s, want := range map[string]api.RunKind{
		"":                     all,
		"w0.1 r1.1 c1 c0":      none,
		"w0.1 r1.1 c0 c1":      rec,
		"w0.1 w1.1 c0 r1.1 c1": cas,
		"w0.1 c0 r1.1 w1.1 c1": all,
		"w0.1 a0 r1.1 c1":      all,
		// Who reads and does not commit is no harm to Recoverable.
		"w0.1 r1.1":          rec,
		"w0.1 r1.1 a1 c0":    rec,
		"w0.1 r1.1 c1":       none,
		"w0.1 r1.1 a0 a1":    rec,
		"w0.1 r1.1 a0 c1":    none,
		"w0.1 r1.1 w1.2 c0":  rec,
		"w0.1 w1.1 c0 c1":    cas,
		"w0.1 w1.1":          cas,
		"r0.1 w1.1 c1 c0":    all,
		"w0.1 r1.2 c1 c0":    all,
		"w0.1 r0.1 w0.1 c0":  all,
		"w0.0 c1 c0":         all,
		"w0.0 a1 c0":         all,
		"w0.1 c0 w1.1 r2.1":  rec,
		"w0.1 a0 w1.1 r1.1":  all,
		"w11.19 r0.19 c0":    none,
		"w11.19 c11 w0.19":   all,
		"c0 w1.0 r2.0 a1 c2": none,
		// Its own write is the last one: it reads from itself, whoever wrote ahead of that.
		"w0.1 w1.1 r1.1 c1": cas,
		"w0.1 r0.1 r1.2":    all,
		// What is gone lays open what is behind it.
		"w0.1 c0 w1.1 a1 r2.1 c2":           all,
		"w0.1 w1.1 a1 r2.1 c2 c0":           none,
		"w0.1 w1.1 a1 r2.1 c0 c2":           rec,
		"w0.1 w1.1 c0 a1 r2.1 c2":           cas,
		"w0.1 w1.1 a1 r0.1 c0":              cas,
		"w0.1 c0 w1.1 w2.1 a1 a2 r3.1 c3":   cas,
		"w0.1 c0 w1.1 r1.1 a1 r2.1 w2.1 c2": all,
		// It is gone from then on alone: who read ahead of that has read it.
		"w0.1 r1.1 a0 r1.1 c1": none,
		"w0.1 r1.1 a0 w1.1 c1": none,
		// The last write is its own, or one that has ended, and an earlier one is not.
		"w0.1 w1.1 c1 r2.1 c2": cas,
		// Each one that it read from counts, not the last alone.
		"w0.1 w1.2 r2.1 r2.2 c1 c2 c0": none,
		"w0.1 w1.2 r2.2 r2.1 c1 c2 c0": none,
		"w0.1 w1.2 r2.1 r2.2 c1 c0 c2": rec,
		"w0.1 r1.1 w1.2 r2.2 c1 c2 c0": none,
		"w0.1 r1.1 w1.2 r2.2 c0 c2 c1": none,
		"w0.1 r1.1 w1.2 r2.2 c0 c1 c2": rec,
		// Recoverable by those that commit ahead, not by whose Commit comes at all.
		"w0.1 r1.1 r2.1 c0 c1 c2": rec,
		"w0.1 r1.1 r2.1 c1 c0 c2": none,
		// Two that read from each other: neither may commit.
		"w0.1 w1.2 r0.2 r1.1 c0 c1": none,
		"w0.1 w1.2 r0.2 r1.1 a0 a1": rec,
	} {
		l := ops(s)
		if toldCheck(l) != api.OK {
			t.Errorf("%s is no right run", s)
		}
		if kind, err := Kinds(l); kind != want || err != api.OK {
			t.Errorf("Kinds(%s): %v %d, want %v", s, kind, err, want)
		}
		wantTold(t, l)
	}
}

// Strict runs are Cascadeless, and those are Recoverable; of each kind there are some.
func TestP40OneKindWithinAnother(t *testing.T) {
	seen := map[api.RunKind]int{}
	runs(allOps(2, 1), 5, func(l []api.Op) {
		kind, _ := Kinds(l)
		seen[kind]++
		if kind.Strict && !kind.Cascadeless || kind.Cascadeless && !kind.Recoverable {
			t.Fatalf("Kinds(%v): %v", l, kind)
		}
	})
	if len(seen) != 4 {
		t.Errorf("kinds: %v", seen)
	}
}

// All right runs of few operations.
func TestP36P37P38P40AllSmallRuns(t *testing.T) {
	runs(allOps(2, 1), 6, func(l []api.Op) { wantTold(t, l) })
	runs(allOps(3, 1), 5, func(l []api.Op) { wantTold(t, l) })
	runs(allOps(2, 2), 5, func(l []api.Op) { wantTold(t, l) })
}

// Longer runs, with all the transactions and items. The seed is fixed.
func TestP36P37P38P40LongRuns(t *testing.T) {
	r := rand.New(rand.NewSource(36))
	for range 400 {
		wantTold(t, someRun(r, 1+r.Intn(6), 1+r.Intn(4), 30, 5))
		wantTold(t, someRun(r, 4+r.Intn(9), 1+r.Intn(20), 60, 8))
	}
	for range 10 {
		wantTold(t, someRun(r, 12, 20, 200, 30))
		wantTold(t, someRun(r, 12, 1, 200, 200))
	}
}

// Random lists, most of them wrong somewhere.
func TestP36RandomLists(t *testing.T) {
	r := rand.New(rand.NewSource(3636))
	for range 1500 {
		l := make([]api.Op, r.Intn(8))
		for i := range l {
			l[i] = api.Op{Tx: r.Intn(14) - 1, Kind: 1 + r.Intn(2), Item: r.Intn(21)}
			if r.Intn(3) == 0 {
				l[i].Kind, l[i].Item = r.Intn(6), r.Intn(2)
			}
		}
		if want := toldCheck(l); want != api.OK {
			wantRefused(t, l, want)
		} else {
			wantTold(t, l)
		}
	}
}

// As many edges as there can be.
func TestP37MostEdges(t *testing.T) {
	var l []api.Op
	for range 2 {
		for tx := range 12 {
			l = append(l, api.Op{Tx: tx, Kind: 2, Item: 19})
		}
	}
	for tx := range 12 {
		l = append(l, api.Op{Tx: tx, Kind: 3})
	}
	wantTold(t, l)
	if edges, err := Edges(l); len(edges) != 132 || err != api.OK {
		t.Errorf("%d edges, %d", len(edges), err)
	}
}

// Runs are handed in with room behind them: neither they nor the room is changed, and what is done to an answer or its room
// is not seen in them, nor in another answer.
func TestP2ListsAreApart(t *testing.T) {
	long := ops("w3.1 r1.1 w1.2 r2.2 w0.3 r3.3 c3 c1 c2 c0")
	long = append(long, api.Op{Tx: -1, Kind: -1, Item: -1}, api.Op{Tx: -2})
	was := slices.Clone(long)
	for many := range 11 {
		l := long[:many]
		first, _ := Edges(l)
		second, _ := Edges(l)
		one, _ := Serial(l)
		two, _ := Serial(l)
		Check(l)
		Kinds(l)
		Like(l, l)
		for i := range first[:cap(first)] {
			first[:cap(first)][i] = api.Edge{From: -77, To: -77}
		}
		for i := range one[:cap(one)] {
			one[:cap(one)][i] = -77
		}
		told, _ := toldSerial(l)
		if !slices.Equal(second, toldEdges(l)) || !slices.Equal(two, told) {
			t.Fatalf("%d operations: two answers share memory", many)
		}
		if !slices.Equal(long, was) {
			t.Fatalf("%d operations: what was handed in is changed", many)
		}
		wantTold(t, l)
	}
}

func TestP2LikeChangesNothing(t *testing.T) {
	a := ops("r0.1 r1.1 w0.2 c0 w9.9 w9.8")
	b := ops("r1.1 r0.1 w0.2 c0 w8.9 w8.8")
	wasA, wasB := slices.Clone(a), slices.Clone(b)
	wantLike(t, a[:4], b[:4], true)
	wantLike(t, a[:1], a[:2], false)
	if !slices.Equal(a, wasA) || !slices.Equal(b, wasB) {
		t.Error("what was handed in is changed")
	}
}

func TestP2NothingIsKept(t *testing.T) {
	l := ops("w0.1 r1.1 w1.2 r2.2 c0 c1")
	wantTold(t, l)
	for _, other := range [][]api.Op{ops("a0 a1 a2"), ops("c0 c0"), make([]api.Op, 201), ops("w0.1 r1.1 c1 c0"), nil} {
		Check(other)
		Edges(other)
		Serial(other)
		Kinds(other)
		Like(other, l)
		Like(l, other)
		wantTold(t, l)
	}
}

func TestP2CallsAtOneTime(t *testing.T) {
	l := someRun(rand.New(rand.NewSource(2)), 8, 10, 60, 20)
	edges, kind := toldEdges(l), toldKinds(l)
	serial, wantErr := toldSerial(l)
	var group sync.WaitGroup
	for range 8 {
		group.Go(func() {
			for range 50 {
				if x, err := Edges(l); !slices.Equal(x, edges) || err != api.OK {
					t.Errorf("Edges: %v %d", x, err)
				}
				if x, err := Serial(l); !slices.Equal(x, serial) || err != wantErr {
					t.Errorf("Serial: %v %d", x, err)
				}
				if x, err := Kinds(l); x != kind || err != api.OK {
					t.Errorf("Kinds: %v %d", x, err)
				}
				if x, err := Like(l, l); !x || err != api.OK {
					t.Errorf("Like: %v %d", x, err)
				}
			}
		})
	}
	group.Wait()
}

func TestP1NoCallPanics(t *testing.T) {
	odd := []int{math.MinInt, -1 << 32, -1, 0, 1, 2, 3, 4, 5, 11, 12, 19, 20, 1 << 32, math.MaxInt}
	right := ops("w0.0 r1.0 c1")
	for _, tx := range odd {
		for _, kind := range odd {
			for _, item := range odd {
				o := api.Op{Tx: tx, Kind: kind, Item: item}
				for _, l := range [][]api.Op{{o}, {o, o}, append(slices.Clone(right), o), {o, right[0], right[1]}} {
					Check(l)
					Edges(l)
					Serial(l)
					Kinds(l)
					Like(l, right)
					Like(right, l)
					Like(l, l)
				}
			}
		}
	}
}
