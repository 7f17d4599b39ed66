package see

import (
	"math"
	"math/rand"
	"slices"
	"strconv"
	"strings"
	"sync"
	"testing"

	"quirestock/api"
	"quirestock/run"
)

// ops reads a run as the chapters write one: r1.2 w11.19 c1 a2.
func ops(s string) []api.Op {
	var l []api.Op
	for _, word := range strings.Fields(s) {
		tx, item, _ := strings.Cut(word[1:], ".")
		o := api.Op{Kind: strings.Index("rwca", word[:1]) + 1}
		o.Tx, _ = strconv.Atoi(tx)
		o.Item, _ = strconv.Atoi(item)
		l = append(l, o)
	}
	return l
}

// doneAhead tells whether the transaction has done such a thing ahead of place i.
func doneAhead(l []api.Op, i, tx, kind int) bool {
	return slices.ContainsFunc(l[:i], func(o api.Op) bool { return o.Tx == tx && o.Kind == kind })
}

func endedAhead(l []api.Op, i, tx int) bool {
	return doneAhead(l, i, tx, 3) || doneAhead(l, i, tx, 4)
}

// toldReads keeps of each item the writes that are there, the last one behind, and takes those of who aborts out.
func toldReads(l []api.Op) []api.Seen {
	var reads []api.Seen
	var there [20][]int
	for i, o := range l {
		at := there[o.Item]
		switch o.Kind {
		case 1:
			reads = append(reads, api.Seen{At: i, From: append([]int{-1}, at...)[len(at)]})
		case 2:
			there[o.Item] = append(at, i)
		case 4:
			for item := range there {
				there[item] = slices.DeleteFunc(there[item], func(w int) bool { return l[w].Tx == o.Tx })
			}
		}
	}
	return reads
}

// toldLast goes by who aborts anywhere in the run.
func toldLast(l []api.Op) [20]int {
	var last [20]int
	for item := range last {
		last[item] = -1
	}
	for i, o := range l {
		if o.Kind == 2 && !doneAhead(l, len(l), o.Tx, 4) {
			last[o.Item] = i
		}
	}
	return last
}

// toldName writes out the name of the operation at a place.
func toldName(l []api.Op, at int) string {
	if at < 0 {
		return "none"
	}
	n := 0
	for _, o := range l[:at] {
		if o.Tx == l[at].Tx {
			n++
		}
	}
	return strconv.Itoa(l[at].Tx) + ":" + strconv.Itoa(n)
}

// toldView writes out what Alike goes by: the Reads, sorted by their names, and the last writes.
func toldView(l []api.Op) string {
	var lines []string
	for _, r := range toldReads(l) {
		lines = append(lines, toldName(l, r.At)+" from "+toldName(l, r.From))
	}
	slices.Sort(lines)
	for _, at := range toldLast(l) {
		lines = append(lines, toldName(l, at))
	}
	return strings.Join(lines, "\n")
}

func wantAlike(t *testing.T, a, b []api.Op, want bool) {
	t.Helper()
	if is, err := Alike(a, b); is != want || err != api.OK {
		t.Fatalf("Alike(%v, %v): %v %d, want %v", a, b, is, err, want)
	}
	if is, err := Alike(b, a); is != want || err != api.OK {
		t.Fatalf("Alike(%v, %v): %v %d, want %v", b, a, is, err, want)
	}
}

// wantTold holds all calls to what is told of a right run.
func wantTold(t *testing.T, l []api.Op) {
	t.Helper()
	reads, err := Reads(l)
	if told := toldReads(l); !slices.Equal(reads, told) || err != api.OK {
		t.Fatalf("Reads(%v): %v %d, want %v", l, reads, err, told)
	}
	last, err := Last(l)
	if told := toldLast(l); last != told || err != api.OK {
		t.Fatalf("Last(%v): %v %d, want %v", l, last, err, told)
	}
	wantAlike(t, l, slices.Clone(l), true)
}

// wantRefused holds all calls to run.Check's error, which is that one.
func wantRefused(t *testing.T, l []api.Op, want api.Errno) {
	t.Helper()
	if err := run.Check(l); err != want {
		t.Errorf("run.Check(%v): %d, want %d", l, err, want)
	}
	if reads, err := Reads(l); reads != nil || err != want {
		t.Errorf("Reads(%v): %v %d, want %d", l, reads, err, want)
	}
	if last, err := Last(l); last != ([20]int{}) || err != want {
		t.Errorf("Last(%v): %v %d, want %d", l, last, err, want)
	}
	for _, right := range [][]api.Op{nil, ops("w0.0 r0.0 c0")} {
		if is, err := Alike(l, right); is || err != want {
			t.Errorf("Alike(%v, %v): %v %d, want %d", l, right, is, err, want)
		}
		if is, err := Alike(right, l); is || err != want {
			t.Errorf("Alike(%v, %v): %v %d, want %d", right, l, is, err, want)
		}
	}
	if is, err := Alike(l, l); is || err != want {
		t.Errorf("Alike(%v) itself: %v %d, want %d", l, is, err, want)
	}
}

// wrong are lists that run.Check refuses, each with its error.
func wrong() map[api.Errno][][]api.Op {
	return map[api.Errno][][]api.Op{
		api.ErrLarge: {
			slices.Repeat(ops("r0.0"), 201),
			make([]api.Op, 201),
			slices.Repeat([]api.Op{{Tx: 12, Kind: 1}}, 100000),
		},
		api.ErrArg: {
			{{Tx: 12, Kind: 1}}, {{Tx: -1, Kind: 2}}, {{Kind: 1, Item: 20}}, {{Kind: 2, Item: -1}},
			{{Tx: math.MaxInt, Kind: 1}}, {{Kind: 2, Item: math.MinInt}}, {{Kind: 3, Item: 20}}, {{Tx: 12}},
			append(ops("w0.1 r0.1 c0"), api.Op{Tx: 0, Kind: 1, Item: 20}),
			append(slices.Repeat(ops("w0.0"), 199), api.Op{Tx: 12, Kind: 1}),
		},
		api.ErrForm: {
			{{}}, {{Kind: 5}}, {{Kind: -1}}, {{Kind: math.MaxInt}}, {{Kind: 3, Item: 1}}, {{Kind: 4, Item: 19}},
			ops("c0 r0.1"), ops("a0 w0.1"), ops("c0 c0"), ops("a0 c0"), ops("w0.1 r1.1 c1 a1"),
			append(ops("c0 c0"), api.Op{Tx: 12, Kind: 1}),
			append(slices.Repeat(ops("w0.0"), 199), api.Op{}),
		},
	}
}

// allOps are the operations of that many transactions and items.
func allOps(txs, items int) []api.Op {
	var l []api.Op
	for tx := range txs {
		for item := range items {
			l = append(l, api.Op{Tx: tx, Kind: 1, Item: item}, api.Op{Tx: tx, Kind: 2, Item: item})
		}
		l = append(l, api.Op{Tx: tx, Kind: 3}, api.Op{Tx: tx, Kind: 4})
	}
	return l
}

// runs hands on each right run of at most that many of these operations.
func runs(of []api.Op, most int, do func([]api.Op)) {
	var more func(l []api.Op)
	more = func(l []api.Op) {
		do(l)
		for _, o := range of {
			if len(l) < most && !endedAhead(l, len(l), o.Tx) {
				more(append(slices.Clone(l), o))
			}
		}
	}
	more(nil)
}

// someRun is a right run of at most that many operations, by chance: the greater calm is, the later transactions end.
func someRun(r *rand.Rand, txs, items, most, calm int) []api.Op {
	names, things := r.Perm(12)[:txs], r.Perm(20)[:items]
	var l []api.Op
	for range most {
		o := api.Op{Tx: names[r.Intn(txs)], Kind: 1 + r.Intn(2), Item: things[r.Intn(items)]}
		if r.Intn(calm) == 0 {
			o.Kind, o.Item = 3+r.Intn(2), 0
		}
		if !endedAhead(l, len(l), o.Tx) {
			l = append(l, o)
		}
	}
	return l
}

// mixed is the run with some neighbours of unlike transactions changed.
func mixed(r *rand.Rand, l []api.Op, times int) []api.Op {
	l = slices.Clone(l)
	for range times {
		k := 1 + r.Intn(max(len(l)-1, 1))
		if k < len(l) && l[k-1].Tx != l[k].Tx {
			l[k-1], l[k] = l[k], l[k-1]
		}
	}
	return l
}

func TestP41P42P43Wrong(t *testing.T) {
	for want, lists := range wrong() {
		for _, l := range lists {
			wantRefused(t, l, want)
		}
	}
}

func TestP41P42MostOperations(t *testing.T) {
	for _, many := range []int{0, 1, 199, 200} {
		wantTold(t, slices.Repeat(ops("r0.0"), many))
		wantTold(t, slices.Repeat(ops("w11.19"), many))
	}
	l := append(ops("w11.19"), slices.Repeat(ops("r0.19"), 199)...)
	reads, err := Reads(l)
	if len(reads) != 199 || reads[198] != (api.Seen{At: 199, From: 0}) || err != api.OK {
		t.Errorf("Reads: %v %d", reads, err)
	}
}

func TestP41Reads(t *testing.T) {
	for s, want := range map[string][]api.Seen{
		"":                nil,
		"w0.1 c0":         nil,
		"c0 a1":           nil,
		"r0.1":            {{At: 0, From: -1}},
		"r0.1 r0.1":       {{At: 0, From: -1}, {At: 1, From: -1}},
		"w0.1 r1.1":       {{At: 1, From: 0}},
		"r1.1 w0.1":       {{At: 0, From: -1}},
		"w0.1 r1.2":       {{At: 1, From: -1}},
		"w0.1 w2.2 r1.1":  {{At: 2, From: 0}},
		"w11.19 r0.19":    {{At: 1, From: 0}},
		"w0.0 r11.0 r0.1": {{At: 1, From: 0}, {At: 2, From: -1}},
		// The last write ahead of it, whoever's, its own too.
		"w0.1 w0.1 r1.1":                {{At: 2, From: 1}},
		"w0.1 w1.1 r2.1 w0.1 r2.1":      {{At: 2, From: 1}, {At: 4, From: 3}},
		"w0.1 r0.1":                     {{At: 1, From: 0}},
		"w0.1 w1.1 r1.1 r0.1":           {{At: 2, From: 1}, {At: 3, From: 1}},
		"w1.1 c1 w0.1 r0.1":             {{At: 3, From: 2}},
		"w0.1 c0 r1.1":                  {{At: 2, From: 0}},
		"w0.1 r1.1 c1 c0":               {{At: 1, From: 0}},
		"r2.3 w2.3 r2.3 w2.3 r2.3 r2.4": {{At: 0, From: -1}, {At: 2, From: 1}, {At: 4, From: 3}, {At: 5, From: -1}},
		// What is gone by then lays open what is behind it, or nothing.
		"w0.1 a0 r1.1":                      {{At: 2, From: -1}},
		"w0.1 w1.1 a1 r2.1":                 {{At: 3, From: 0}},
		"w0.1 w1.1 a0 r2.1":                 {{At: 3, From: 1}},
		"w0.1 w1.1 a1 a0 r2.1":              {{At: 4, From: -1}},
		"w0.1 w1.1 w1.1 w0.1 a0 r2.1":       {{At: 5, From: 2}},
		"w0.1 w1.1 a1 w2.1 a2 r3.1":         {{At: 5, From: 0}},
		"w0.1 w0.2 a0 r1.1 r1.2":            {{At: 3, From: -1}, {At: 4, From: -1}},
		"r1.1 w0.1 r1.1 w1.1 r1.1 a1 r2.1":  {{At: 0, From: -1}, {At: 2, From: 1}, {At: 4, From: 3}, {At: 6, From: 1}},
		"w11.19 w11.0 a11 r10.19 w1.0 r0.0": {{At: 3, From: -1}, {At: 5, From: 4}},
		// Who aborts later has not yet: nor is a read of who aborts left out.
		"w0.1 r1.1 a0":      {{At: 1, From: 0}},
		"w0.1 r1.1 a0 r1.1": {{At: 1, From: 0}, {At: 3, From: -1}},
		"w0.1 r1.1 a1 c0":   {{At: 1, From: 0}},
		// The item 0 of what ends is none.
		"w0.0 c1 r2.0":    {{At: 2, From: 0}},
		"w0.0 a1 r2.0":    {{At: 2, From: 0}},
		"w1.0 c1 a2 r0.0": {{At: 3, From: 0}},
		"c1 r2.0 a3 w0.0": {{At: 1, From: -1}},
	} {
		l := ops(s)
		wantTold(t, l)
		if reads, err := Reads(l); !slices.Equal(reads, want) || err != api.OK {
			t.Errorf("Reads(%s): %v %d, want %v", s, reads, err, want)
		}
	}
}

func TestP42Last(t *testing.T) {
	for s, want := range map[string]map[int]int{
		"":                              {},
		"r0.1 c0":                       {},
		"c0 a1":                         {},
		"w0.1":                          {1: 0},
		"w0.0 w0.19":                    {0: 0, 19: 1},
		"w0.1 w0.1":                     {1: 1},
		"w0.1 w1.1 r2.1":                {1: 1},
		"w1.1 w0.1 c0 c1":               {1: 1},
		"w0.1 w1.1 a1 w2.3":             {1: 0, 3: 3},
		"w11.19 r11.19 c11":             {19: 0},
		"w0.1 w1.2 w2.3 c0 c1":          {1: 0, 2: 1, 3: 2},
		"w0.1 w1.1 w0.1 w1.1 a1 c0":     {1: 2},
		"w0.1 w1.1 w0.1 w1.1 a0 c1":     {1: 3},
		"w0.1 c0 w1.1 w2.1 w1.1 a2 a1":  {1: 0},
		"w0.1 w0.2 w1.2 a0":             {2: 2},
		"w0.1 a0":                       {},
		"w0.1 w1.1 a0 a1":               {},
		"a0 w1.0 w2.0 c2":               {0: 2},
		"w1.0 c2":                       {0: 0},
		"w1.0 a2":                       {0: 0},
		"w0.5 r1.5 a0 c1":               {},
		"w0.5 w11.5 w3.5 r3.5 a3 a0 c5": {5: 1},
	} {
		l := ops(s)
		wantTold(t, l)
		var all [20]int
		for item := range all {
			all[item] = -1
			if at, is := want[item]; is {
				all[item] = at
			}
		}
		if last, err := Last(l); last != all || err != api.OK {
			t.Errorf("Last(%s): %v %d, want %v", s, last, err, all)
		}
	}
}

func TestP43Alike(t *testing.T) {
	for _, is := range []struct {
		a, b string
		want bool
	}{
		{"", "", true},
		{"w0.1 r1.1 w1.2", "w0.1 r1.1 w1.2", true},
		{"w0.1 w1.1", "w1.1 w0.1", false},
		// Whose write is the last one counts, not the ones that nobody reads ahead of it.
		{"w0.1 w1.1 w2.1", "w1.1 w0.1 w2.1", true},
		{"w0.1 w1.1 w2.1", "w1.1 w2.1 w0.1", false},
		{"w0.1 w1.1 a1", "w1.1 w0.1 a1", true},
		{"w0.1 w1.1 c1 c0", "w1.1 c1 w0.1 c0", false},
		// From whose write each read is.
		{"w0.1 r1.1", "r1.1 w0.1", false},
		{"w0.1 r1.2", "r1.2 w0.1", true},
		{"w0.1 w1.1 r2.1 w3.1", "w1.1 w0.1 r2.1 w3.1", false},
		{"w0.1 w1.2 r2.1 r2.2", "w1.2 w0.1 r2.1 r2.2", true},
		{"w0.1 r1.1 r2.1", "w0.1 r2.1 r1.1", true},
		{"w0.1 r1.1 w0.1 r2.1", "w0.1 r2.1 w0.1 r1.1", false},
		// By its name, not by its place.
		{"w0.1 r1.1 w2.1", "w2.1 r1.1 w0.1", false},
		{"w0.1 r2.1 w3.1", "w1.1 r2.1 w3.1", false},
		{"w5.5 w0.1 r1.1", "w0.1 w5.5 r1.1", true},
		{"w0.1 r1.2 r2.3 w1.1", "r1.2 r2.3 w0.1 w1.1", true},
		// Of one transaction's writes each has its own name.
		{"w0.1 w0.1 r1.1", "w0.1 r1.1 w0.1", false},
		{"w0.1 r1.1 w0.1", "w0.1 r1.1 w0.1", true},
		{"w0.1 w1.1 w0.1 r2.1", "w1.1 w0.1 w0.1 r2.1", true},
		{"w0.1 w0.2 r1.2", "w0.1 w0.2 r1.1", false},
		{"r0.1 w0.1", "w0.1", false},
		{"w0.1", "w0.2 w0.1", false},
		// More Reads, fewer, and other ones.
		{"r0.1", "", false},
		{"r0.1 r0.1", "r0.1", false},
		{"r0.1 r1.1", "r0.1 r0.1", false},
		{"r0.1", "r1.1", false},
		{"w0.1 r1.1", "w0.1 r2.1", false},
		{"r0.1 r1.1", "r1.1 r0.1", true},
		{"w0.1 r0.2", "r0.2 w0.1", false},
		// More last writes, fewer, and other ones.
		{"w0.1", "", false},
		{"w0.1", "w1.1", false},
		{"w0.1", "w0.2", false},
		{"w0.0", "", false},
		{"w11.19", "", false},
		{"w0.1 w0.2", "w0.2 w0.1", false},
		// Own writes count.
		{"w0.1 r0.1 w1.1", "w1.1 w0.1 r0.1", false},
		{"w0.1 w1.1 r0.1 w2.1", "w1.1 w0.1 r0.1 w2.1", false},
		{"w0.1 r0.1 w1.1 w2.1", "w1.1 w0.1 r0.1 w2.1", true},
		// What is gone: the last write does not go by when it is, the reads do.
		{"w0.1 a0", "", true},
		{"w0.1 w1.1 a1", "w1.1 a1 w0.1", true},
		{"w0.1 a0 r1.1", "w0.1 r1.1 a0", false},
		{"w0.1 a0 r1.1", "r1.1 w0.1 a0", true},
		{"w0.1 w1.1 a1 r2.1", "w1.1 w0.1 a1 r2.1", true},
		{"w0.1 a0", "w0.1 c0", false},
		// What ends is neither read nor written, nor is its item 0.
		{"c0", "", true},
		{"c0 a1", "a0 c1 c2", true},
		{"w0.1 c0 r1.1 c1", "w0.1 r1.1 c1 c0", true},
		{"w0.1 r1.1", "w0.1 r1.1 c1 c0", true},
		{"w0.0 c1", "c1 w0.0", true},
		// A name is of the transaction and its operations alone: which item is read is not in it.
		{"r0.1", "r0.2", true},
		{"r0.1 w1.1", "r0.2 w1.1", true},
		{"w1.1 r0.1", "w1.1 r0.2", false},
		{"w0.1 r1.1 w0.2 r2.2", "w0.1 r1.1 w0.2 r2.1", false},
		{"w11.19 r0.19 w11.0", "w11.19 r0.19 w11.0 c0 c11", true},
	} {
		a, b := ops(is.a), ops(is.b)
		wantTold(t, a)
		wantTold(t, b)
		wantAlike(t, a, b, is.want)
		if (toldView(a) == toldView(b)) != is.want {
			t.Errorf("told of %s and %s", is.a, is.b)
		}
	}
}

func TestP43WhichErrorIsFirst(t *testing.T) {
	for want, a := range wrong() {
		for _, b := range wrong() {
			if is, err := Alike(a[0], b[0]); is || err != want {
				t.Errorf("Alike(%v, %v): %v %d, want %d", a[0], b[0], is, err, want)
			}
		}
	}
}

// All right runs of few operations.
func TestP41P42AllSmallRuns(t *testing.T) {
	runs(allOps(2, 1), 6, func(l []api.Op) { wantTold(t, l) })
	runs(allOps(3, 1), 5, func(l []api.Op) { wantTold(t, l) })
	runs(allOps(2, 2), 5, func(l []api.Op) { wantTold(t, l) })
}

// Each two of the right runs of few operations.
func TestP43AllPairsOfSmallRuns(t *testing.T) {
	for _, of := range [][]api.Op{allOps(1, 2), allOps(2, 1)} {
		var all [][]api.Op
		var told []string
		runs(of, 3, func(l []api.Op) {
			all = append(all, l)
			told = append(told, toldView(l))
		})
		for i, a := range all {
			for k, b := range all[:i+1] {
				wantAlike(t, a, b, told[i] == told[k])
			}
		}
	}
}

// Longer runs, with all the transactions and items. The seed is fixed.
func TestP41P42LongRuns(t *testing.T) {
	r := rand.New(rand.NewSource(41))
	for range 400 {
		wantTold(t, someRun(r, 1+r.Intn(6), 1+r.Intn(4), 30, 6))
		wantTold(t, someRun(r, 4+r.Intn(9), 1+r.Intn(20), 60, 12))
		wantTold(t, someRun(r, 12, 1+r.Intn(20), 200, 30))
	}
}

// Runs whose operations stand in another order, each transaction's in its own. The seed is fixed.
func TestP43LongRuns(t *testing.T) {
	r := rand.New(rand.NewSource(43))
	alike := 0
	for range 2000 {
		a := someRun(r, 2+r.Intn(11), 1+r.Intn(20), 2+r.Intn(199), 10+r.Intn(40))
		b := mixed(r, a, r.Intn(25))
		want := toldView(a) == toldView(b)
		wantAlike(t, a, b, want)
		if want {
			alike++
		}
	}
	if alike < 400 || alike > 1600 {
		t.Errorf("%d of 2000 are alike: the runs say too little", alike)
	}
}

// Where nobody aborts, runs in which all that clash stand in the same order are alike. The seed is fixed.
func TestP43LikeRunsAreAlike(t *testing.T) {
	r := rand.New(rand.NewSource(4343))
	like := 0
	for range 2000 {
		a := someRun(r, 1+r.Intn(6), 1+r.Intn(6), 20, 8)
		a = slices.DeleteFunc(a, func(o api.Op) bool { return o.Kind == 4 })
		b := mixed(r, a, r.Intn(10))
		if is, _ := run.Like(a, b); is {
			like++
			wantAlike(t, a, b, true)
		}
	}
	if like < 300 {
		t.Errorf("%d of 2000 are like: the runs say too little", like)
	}
}

// Runs are handed in with room behind them: neither they nor the room is changed, and what is done to an answer or its room
// is not seen in them, nor in another answer.
func TestP2ListsAreApart(t *testing.T) {
	long := ops("w3.1 r1.1 w1.2 r2.2 w0.3 r3.3 c3 a1 c2 c0")
	long = append(long, api.Op{Tx: -1, Kind: -1, Item: -1}, api.Op{Tx: -2})
	was := slices.Clone(long)
	for many := range 11 {
		l := long[:many]
		first, _ := Reads(l)
		second, _ := Reads(l)
		one, _ := Last(l)
		two, _ := Last(l)
		wantAlike(t, l, l, true)
		for i := range first[:cap(first)] {
			first[:cap(first)][i] = api.Seen{At: -77, From: -77}
		}
		for i := range one {
			one[i] = -77
		}
		if !slices.Equal(second, toldReads(l)) || two != toldLast(l) {
			t.Fatalf("%d operations: two answers share memory", many)
		}
		if !slices.Equal(long, was) {
			t.Fatalf("%d operations: what was handed in is changed", many)
		}
		wantTold(t, l)
	}
}

func TestP2AlikeChangesNothing(t *testing.T) {
	a := ops("w0.1 r1.1 w0.2 a0 w9.9 w9.8")
	b := ops("w0.1 w0.2 r1.1 a0 w8.9 w8.8")
	wasA, wasB := slices.Clone(a), slices.Clone(b)
	wantAlike(t, a[:4], b[:4], true)
	wantAlike(t, a[:1], a[:2], false)
	if !slices.Equal(a, wasA) || !slices.Equal(b, wasB) {
		t.Error("what was handed in is changed")
	}
}

func TestP2NothingIsKept(t *testing.T) {
	l := ops("w0.1 r1.1 w1.2 r2.2 c0 c1")
	wantTold(t, l)
	for _, other := range [][]api.Op{ops("a0 a1 a2"), ops("c0 c0"), make([]api.Op, 201), ops("w0.1 w1.2 a0 r2.1 r2.2"), nil} {
		Reads(other)
		Last(other)
		Alike(other, l)
		Alike(l, other)
		wantTold(t, l)
	}
}

func TestP2CallsAtOneTime(t *testing.T) {
	r := rand.New(rand.NewSource(2))
	l := someRun(r, 8, 10, 60, 20)
	other := mixed(r, l, 5)
	reads, last, alike := toldReads(l), toldLast(l), toldView(l) == toldView(other)
	var group sync.WaitGroup
	for range 8 {
		group.Go(func() {
			for range 50 {
				if x, err := Reads(l); !slices.Equal(x, reads) || err != api.OK {
					t.Errorf("Reads: %v %d", x, err)
				}
				if x, err := Last(l); x != last || err != api.OK {
					t.Errorf("Last: %v %d", x, err)
				}
				if x, err := Alike(l, other); x != alike || err != api.OK {
					t.Errorf("Alike: %v %d", x, err)
				}
			}
		})
	}
	group.Wait()
}

func TestP1NoCallPanics(t *testing.T) {
	odd := []int{math.MinInt, -1 << 32, -1, 0, 1, 2, 3, 4, 5, 11, 12, 19, 20, 1 << 32, math.MaxInt}
	right := ops("w0.0 r1.0 c1")
	for _, tx := range odd {
		for _, kind := range odd {
			for _, item := range odd {
				o := api.Op{Tx: tx, Kind: kind, Item: item}
				for _, l := range [][]api.Op{{o}, {o, o}, append(slices.Clone(right), o), {o, right[0], right[1]}} {
					Reads(l)
					Last(l)
					Alike(l, right)
					Alike(right, l)
					Alike(l, l)
				}
			}
		}
	}
}
