package lock

import (
	"math"
	"math/rand"
	"slices"
	"strconv"
	"strings"
	"sync"
	"testing"

	"quirestock/api"
)

// modeNames are the modes as table reads them, each at the place of its number.
var modeNames = []string{"", "IS", "IX", "S", "SIX", "X"}

func locks(s string) []api.Lock {
	var l []api.Lock
	for _, word := range strings.Fields(s) {
		n := strings.IndexAny(word, "ISX")
		tx, _ := strconv.Atoi(word[:n])
		l = append(l, api.Lock{Tx: tx, Mode: slices.Index(modeNames, word[n:])})
	}
	return l
}

// table reads a table as these tests write one: of each item its number, what is Held, and behind a stroke what is in the
// Queue: 5: 1S 2IS | 3X; 7: 0X.
func table(s string) api.Locks {
	var t api.Locks
	for part := range strings.SplitSeq(s, ";") {
		if item, rest, is := strings.Cut(part, ":"); is {
			n, _ := strconv.Atoi(strings.TrimSpace(item))
			held, queue, _ := strings.Cut(rest, "|")
			t = append(t, api.LockItem{Item: n, Held: locks(held), Queue: locks(queue)})
		}
	}
	return t
}

// edgesOf reads edges: 1-2 3-0.
func edgesOf(s string) []api.Edge {
	var l []api.Edge
	for _, word := range strings.Fields(s) {
		from, to, _ := strings.Cut(word, "-")
		var e api.Edge
		e.From, _ = strconv.Atoi(from)
		e.To, _ = strconv.Atoi(to)
		l = append(l, e)
	}
	return l
}

func sameTables(a, b api.Locks) bool {
	return slices.EqualFunc(a, b, func(x, y api.LockItem) bool {
		return x.Item == y.Item && slices.Equal(x.Held, y.Held) && slices.Equal(x.Queue, y.Queue)
	})
}

// copied is the table in memory that it shares with none.
func copied(t api.Locks) api.Locks {
	t = slices.Clone(t)
	for i := range t {
		t[i].Held, t[i].Queue = slices.Clone(t[i].Held), slices.Clone(t[i].Queue)
	}
	return t
}

// toldFit has the chapter's words as a table: who goes with whom.
func toldFit(a, b int) bool {
	return []string{"", " ****.", " **...", " *.*..", " *....", " ....."}[a][b] == '*'
}

// toldJoin is the least mode that keeps away all whom either keeps away, and has all that either has: shared or to be
// written, the whole or its parts.
func toldJoin(a, b int) int {
	allows := []int{0, 0b0001, 0b0011, 0b0101, 0b0111, 0b1111}
	for m := 1; ; m++ {
		if allows[m]&allows[a] == allows[a] && allows[m]&allows[b] == allows[b] {
			return m
		}
	}
}

// toldHas is what the transaction has there; 0: nothing.
func toldHas(of api.LockItem, tx int) int {
	for _, l := range of.Held {
		if l.Tx == tx {
			return l.Mode
		}
	}
	return 0
}

func toldWish(of api.LockItem, l api.Lock) int {
	if has := toldHas(of, l.Tx); has != 0 {
		return toldJoin(has, l.Mode)
	}
	return l.Mode
}

func toldCan(of api.LockItem, l api.Lock) bool {
	return !slices.ContainsFunc(of.Held, func(h api.Lock) bool { return h.Tx != l.Tx && !toldFit(toldWish(of, l), h.Mode) })
}

// toldGive changes the item, whose lists are its own.
func toldGive(of *api.LockItem, l api.Lock) {
	l.Mode = toldWish(*of, l)
	for i := range of.Held {
		if of.Held[i].Tx == l.Tx {
			of.Held[i] = l
			return
		}
	}
	of.Held = append(of.Held, l)
}

func toldCheck(t api.Locks) api.Errno {
	if len(t) > 20 {
		return api.ErrLarge
	}
	for i, of := range t {
		if of.Item < 0 || of.Item > 19 {
			return api.ErrArg
		}
		wrong := len(of.Held) == 0 || i > 0 && t[i-1].Item >= of.Item
		for _, list := range [][]api.Lock{of.Held, of.Queue} {
			for k, l := range list {
				wrong = wrong || l.Tx < 0 || l.Tx > 11 || l.Mode < 1 || l.Mode > 5
				wrong = wrong || slices.ContainsFunc(list[:k], func(o api.Lock) bool { return o.Tx == l.Tx })
			}
		}
		if wrong {
			return api.ErrForm
		}
		for k, l := range of.Held {
			wrong = wrong || slices.ContainsFunc(of.Held[:k], func(o api.Lock) bool { return !toldFit(o.Mode, l.Mode) })
		}
		if wrong || len(of.Queue) > 0 && toldCan(of, of.Queue[0]) {
			return api.ErrForm
		}
	}
	return api.OK
}

// toldAsk is what is told of a right table.
func toldAsk(t api.Locks, tx, item, mode int) (api.Locks, bool, api.Errno) {
	if tx < 0 || tx > 11 || item < 0 || item > 19 || mode < 1 || mode > 5 {
		return nil, false, api.ErrArg
	}
	if slices.ContainsFunc(t, func(of api.LockItem) bool {
		return slices.ContainsFunc(of.Queue, func(l api.Lock) bool { return l.Tx == tx })
	}) {
		return nil, false, api.ErrState
	}
	t, l := copied(t), api.Lock{Tx: tx, Mode: mode}
	at := slices.IndexFunc(t, func(of api.LockItem) bool { return of.Item == item })
	if at < 0 {
		t = append(t, api.LockItem{Item: item, Held: []api.Lock{l}})
		slices.SortFunc(t, func(a, b api.LockItem) int { return a.Item - b.Item })
		return t, true, api.OK
	}
	of := &t[at]
	has := toldHas(*of, tx) != 0
	if toldCan(*of, l) && (has || len(of.Queue) == 0) {
		toldGive(of, l)
		return t, true, api.OK
	}
	var ahead, behind []api.Lock
	for _, q := range of.Queue {
		if len(behind) == 0 && (!has || toldHas(*of, q.Tx) != 0) {
			ahead = append(ahead, q)
		} else {
			behind = append(behind, q)
		}
	}
	of.Queue = append(append(ahead, l), behind...)
	return t, false, api.OK
}

// toldDrop is what is told of a right table.
func toldDrop(t api.Locks, tx int) (api.Locks, []int, api.Errno) {
	if tx < 0 || tx > 11 {
		return nil, nil, api.ErrArg
	}
	var left api.Locks
	var given []int
	for _, of := range copied(t) {
		next := api.LockItem{Item: of.Item}
		for _, l := range of.Held {
			if l.Tx != tx {
				next.Held = append(next.Held, l)
			}
		}
		for _, l := range of.Queue {
			switch {
			case l.Tx == tx:
			case len(next.Queue) == 0 && toldCan(next, l):
				toldGive(&next, l)
				given = append(given, l.Tx)
			default:
				next.Queue = append(next.Queue, l)
			}
		}
		if len(next.Held) > 0 {
			left = append(left, next)
		}
	}
	return left, given, api.OK
}

// toldWaits asks of each two transactions whether the one waits for the other.
func toldWaits(t api.Locks) []api.Edge {
	waits := func(of api.LockItem, from, to int) bool {
		at := slices.IndexFunc(of.Queue, func(l api.Lock) bool { return l.Tx == from })
		if at < 0 || from == to {
			return false
		}
		has := toldHas(of, to)
		return has != 0 && !toldFit(has, toldWish(of, of.Queue[at])) ||
			slices.ContainsFunc(of.Queue[:at], func(l api.Lock) bool { return l.Tx == to })
	}
	var edges []api.Edge
	for from := range 12 {
		for to := range 12 {
			if slices.ContainsFunc(t, func(of api.LockItem) bool { return waits(of, from, to) }) {
				edges = append(edges, api.Edge{From: from, To: to})
			}
		}
	}
	return edges
}

// wantAsk holds Ask to what is told of a right table, and to answering a right one.
func wantAsk(t *testing.T, x api.Locks, tx, item, mode int) (api.Locks, bool) {
	t.Helper()
	y, given, err := Ask(x, tx, item, mode)
	told, toldGiven, toldErr := toldAsk(x, tx, item, mode)
	if !sameTables(y, told) || given != toldGiven || err != toldErr {
		t.Fatalf("Ask(%v, %d, %d, %d): %v %v %d, want %v %v %d", x, tx, item, mode, y, given, err, told, toldGiven, toldErr)
	}
	if is := toldCheck(y); is != api.OK {
		t.Fatalf("Ask(%v, %d, %d, %d): %v is not right: %d", x, tx, item, mode, y, is)
	}
	return y, given
}

// wantDrop holds Drop to what is told of a right table, and to answering a right one without the transaction.
func wantDrop(t *testing.T, x api.Locks, tx int) (api.Locks, []int) {
	t.Helper()
	y, given, err := Drop(x, tx)
	told, toldGiven, toldErr := toldDrop(x, tx)
	if !sameTables(y, told) || !slices.Equal(given, toldGiven) || err != toldErr {
		t.Fatalf("Drop(%v, %d): %v %v %d, want %v %v %d", x, tx, y, given, err, told, toldGiven, toldErr)
	}
	if is := toldCheck(y); is != api.OK {
		t.Fatalf("Drop(%v, %d): %v is not right: %d", x, tx, y, is)
	}
	return y, given
}

func wantRight(t *testing.T, x api.Locks) {
	t.Helper()
	if err := Check(x); err != api.OK {
		t.Fatalf("Check(%v): %d", x, err)
	}
	waits, err := Waits(x)
	if told := toldWaits(x); !slices.Equal(waits, told) || err != api.OK {
		t.Fatalf("Waits(%v): %v %d, want %v", x, waits, err, told)
	}
}

// wantRefused holds all calls to Check's error, which is that one, whatever else they are given.
func wantRefused(t *testing.T, x api.Locks, want api.Errno) {
	t.Helper()
	if err := Check(x); err != want {
		t.Errorf("Check(%v): %d, want %d", x, err, want)
	}
	if waits, err := Waits(x); waits != nil || err != want {
		t.Errorf("Waits(%v): %v %d, want %d", x, waits, err, want)
	}
	for _, n := range []int{-1, 0, 1, 3, 11, 12, 20, math.MaxInt} {
		if y, to, err := Drop(x, n); y != nil || to != nil || err != want {
			t.Errorf("Drop(%v, %d): %v %v %d, want %d", x, n, y, to, err, want)
		}
		if y, given, err := Ask(x, n, 1, 1); y != nil || given || err != want {
			t.Errorf("Ask(%v, %d, 1, 1): %v %v %d, want %d", x, n, y, given, err, want)
		}
		if y, given, err := Ask(x, 1, n, n); y != nil || given || err != want {
			t.Errorf("Ask(%v, 1, %d, %d): %v %v %d, want %d", x, n, n, y, given, err, want)
		}
	}
}

func TestP44FitsAndJoin(t *testing.T) {
	// What the chapter says, by its words alone.
	fits := map[int][]int{1: {1, 2, 3, 4}, 2: {1, 2}, 3: {1, 3}, 4: {1}, 5: nil}
	for a := 1; a <= 5; a++ {
		for b := 1; b <= 5; b++ {
			if is, err := Fits(a, b); is != slices.Contains(fits[a], b) || is != toldFit(a, b) || err != api.OK {
				t.Errorf("Fits(%d, %d): %v %d", a, b, is, err)
			}
			want := max(a, b)
			if a == 2 && b == 3 || a == 3 && b == 2 {
				want = 4
			}
			if m, err := Join(a, b); m != want || m != toldJoin(a, b) || err != api.OK {
				t.Errorf("Join(%d, %d): %d %d, want %d", a, b, m, err, want)
			}
		}
	}
}

// Who fits both fits the Join, and no one else does.
func TestP44JoinKeepsAwayWhomEitherKeepsAway(t *testing.T) {
	for a := 1; a <= 5; a++ {
		for b := 1; b <= 5; b++ {
			m, _ := Join(a, b)
			for c := 1; c <= 5; c++ {
				ofA, _ := Fits(a, c)
				ofB, _ := Fits(b, c)
				if both, _ := Fits(m, c); both != (ofA && ofB) {
					t.Errorf("%d and %d are %d, which with %d: %v", a, b, m, c, both)
				}
			}
		}
	}
}

func TestP44NoModes(t *testing.T) {
	for _, m := range []int{math.MinInt, -1 << 32, -5, -1, 0, 6, 7, 1<<32 + 1, math.MaxInt} {
		for _, other := range []int{m, -1, 0, 1, 2, 3, 4, 5, 6} {
			for _, p := range [][2]int{{m, other}, {other, m}} {
				if is, err := Fits(p[0], p[1]); is || err != api.ErrArg {
					t.Errorf("Fits(%d, %d): %v %d", p[0], p[1], is, err)
				}
				if is, err := Join(p[0], p[1]); is != 0 || err != api.ErrArg {
					t.Errorf("Join(%d, %d): %d %d", p[0], p[1], is, err)
				}
			}
		}
	}
}

func TestP45RightTables(t *testing.T) {
	for _, s := range []string{
		"",
		"0: 0IS",
		"19: 11X",
		"5: 1S 2S",
		"5: 2S 1S; 6: 2X; 19: 1IS",
		"5: 1IS 2SIX 3IS",
		"5: 0IS 1IX 2IX 3IS",
		"5: 0IS 1S 2S 3IS",
		// The first one of the Queue can't be given; those behind might.
		"5: 1S 2S | 3X 4S 5IS",
		"5: 1X | 2IS 3X",
		"5: 1IX | 2S 3IX 4IS",
		// By what it wishes, not by its mode alone.
		"5: 1S 2S | 1IX",
		"5: 1IX 2IX | 1S",
		"5: 1S 2S | 1X 2X",
		"5: 1SIX 2IS | 2S",
		"5: 1SIX 2IS | 2IX 3IS",
		// One may wait for more than one item.
		"5: 1X | 2S; 6: 1X | 2S",
		"0: 1X | 2S; 19: 2X | 1S",
		// Only the first one of the Queue must not be one that can be given.
		"5: 1X | 3IS 1IS",
		"5: 0IS 1IS 2IS 3IS 4IS 5IS 6IS 7IS 8IS 9IS 10IS 11IS | 0X 1X 2X 3X 4X 5X 6X 7X 8X 9X 10X 11X",
	} {
		x := table(s)
		if toldCheck(x) != api.OK {
			t.Errorf("%s is not right", s)
		}
		wantRight(t, x)
	}
}

func TestP45WrongForms(t *testing.T) {
	for _, s := range []string{
		// Numbers that are not above the one ahead.
		"5: 1S; 5: 2S", "5: 1S; 4: 2S", "0: 1S; 0: 1S", "1: 1S; 5: 2X; 3: 1S", "19: 1S; 0: 1S", "3: 1S; 5: 2S; 5: 1S",
		// Nothing is Held.
		"1:", "1: | 2S", "0: 1S; 1:", "1: ; 2: 1S",
		// Two locks in Held, or in the Queue.
		"5: 1S 1S", "5: 1IS 2IS 1IS", "5: 1IX 1S", "5: 1X | 2S 2S", "5: 1X | 2S 3X 2IS", "5: 1S 2S | 1X 2X 1X", "1: 1S; 5: 1X | 11S 11S",
		// Two in Held that don't fit.
		"5: 1X 2IS", "5: 1IS 2X", "5: 1S 2IX", "5: 1IX 2S", "5: 1IS 2S 3IX", "5: 1SIX 2SIX", "5: 1SIX 2S", "5: 1IX 2SIX", "5: 1X 2X",
		// The first one of the Queue can be given.
		"5: 1S | 2S", "5: 1S | 2IS 3X", "5: 1IX | 2IX", "5: 1SIX | 2IS", "5: 1S | 1X", "5: 1IS | 1X 2X", "5: 1X | 1S", "5: 1X | 1X",
		"5: 1S 2S | 1S", "5: 1S 2IS | 1IS", "5: 1IX 2IS | 1S", "5: 1S 2IS | 1IX", "0: 1X | 2S; 5: 1S | 2S",
	} {
		x := table(s)
		if toldCheck(x) != api.ErrForm {
			t.Errorf("%s: %d", s, toldCheck(x))
		}
		wantRefused(t, x, api.ErrForm)
	}
}

func TestP45LocksThatAreNone(t *testing.T) {
	for _, n := range []int{math.MinInt, -1 << 32, -1, 12, 13, 20, 1 << 32, math.MaxInt} {
		for _, mode := range []int{0, 1, 3, 5, 6} {
			l := api.Lock{Tx: n, Mode: mode}
			wantRefused(t, api.Locks{{Item: 5, Held: []api.Lock{l}}}, api.ErrForm)
			wantRefused(t, api.Locks{{Item: 5, Held: []api.Lock{{Tx: 1, Mode: 1}, l}}}, api.ErrForm)
			wantRefused(t, api.Locks{{Item: 5, Held: locks("1X"), Queue: []api.Lock{l}}}, api.ErrForm)
			wantRefused(t, api.Locks{{Item: 5, Held: locks("1X"), Queue: []api.Lock{{Tx: 2, Mode: 1}, l}}}, api.ErrForm)
		}
	}
	for _, m := range []int{math.MinInt, -1 << 32, -1, 0, 6, 7, 1<<32 + 1, math.MaxInt} {
		l := api.Lock{Tx: 3, Mode: m}
		wantRefused(t, api.Locks{{Item: 5, Held: []api.Lock{l}}}, api.ErrForm)
		wantRefused(t, api.Locks{{Item: 5, Held: []api.Lock{{Tx: 1, Mode: 1}, l}}}, api.ErrForm)
		wantRefused(t, api.Locks{{Item: 5, Held: locks("1X"), Queue: []api.Lock{l}}}, api.ErrForm)
		wantRefused(t, api.Locks{{Item: 5, Held: locks("1X"), Queue: []api.Lock{{Tx: 2, Mode: 1}, l}}}, api.ErrForm)
	}
}

func TestP45ItemsThatAreNone(t *testing.T) {
	for _, n := range []int{math.MinInt, -1 << 32, -1, 20, 21, 1 << 32, math.MaxInt} {
		wantRefused(t, api.Locks{{Item: n, Held: locks("1S")}}, api.ErrArg)
		wantRefused(t, append(table("19: 1S"), api.LockItem{Item: n, Held: locks("1S")}), api.ErrArg)
		// The number goes ahead of all else of the item.
		wantRefused(t, api.Locks{{Item: n}}, api.ErrArg)
		wantRefused(t, append(table("5: 1S"), api.LockItem{Item: n, Held: locks("1X 2X"), Queue: []api.Lock{{Tx: -1}}}), api.ErrArg)
		// But item goes by item.
		wantRefused(t, append(table("5: 1X 2X"), api.LockItem{Item: n, Held: locks("1S")}), api.ErrForm)
		wantRefused(t, append(table("5: 1S; 5: 1S"), api.LockItem{Item: n, Held: locks("1S")}), api.ErrForm)
		wantRefused(t, append(api.Locks{{Item: n, Held: locks("1S")}}, table("5: 1X 2X")...), api.ErrArg)
	}
}

func TestP45TooManyItems(t *testing.T) {
	var all api.Locks
	for item := range 20 {
		all = append(all, api.LockItem{Item: item, Held: locks("1S 2S"), Queue: locks("1X 2X 3S")})
		wantRight(t, all)
	}
	wantRefused(t, append(slices.Clone(all), api.LockItem{Item: 20, Held: locks("1S")}), api.ErrLarge)
	// How many they are goes ahead of what they are.
	for _, many := range []int{21, 22, 100000} {
		wantRefused(t, make(api.Locks, many), api.ErrLarge)
		wantRefused(t, slices.Repeat(api.Locks{{Item: -1}}, many), api.ErrLarge)
	}
	wantRefused(t, make(api.Locks, 20), api.ErrForm)
	wantRefused(t, slices.Repeat(api.Locks{{Item: 20}}, 20), api.ErrArg)
	long := slices.Repeat(locks("1IS"), 1000000)
	wantRefused(t, api.Locks{{Item: 1, Held: long}}, api.ErrForm)
	wantRefused(t, api.Locks{{Item: 1, Held: locks("1X"), Queue: long}}, api.ErrForm)
}

func TestP46Ask(t *testing.T) {
	for _, is := range []struct {
		was            string
		tx, item, mode int
		want           string
		given          bool
	}{
		// An item that is not in the table: at the place of its number.
		{"", 1, 5, 3, "5: 1S", true},
		{"", 0, 0, 1, "0: 0IS", true},
		{"", 11, 19, 5, "19: 11X", true},
		{"5: 1X", 2, 4, 5, "4: 2X; 5: 1X", true},
		{"5: 1X", 2, 6, 2, "5: 1X; 6: 2IX", true},
		{"5: 1X; 7: 3S", 1, 6, 4, "5: 1X; 6: 1SIX; 7: 3S", true},
		{"5: 1X | 2S", 1, 6, 3, "5: 1X | 2S; 6: 1S", true},
		// Of one that is: at once, behind all.
		{"5: 1S", 0, 5, 3, "5: 1S 0S", true},
		{"5: 1S 2IS", 0, 5, 3, "5: 1S 2IS 0S", true},
		{"5: 1SIX", 2, 5, 1, "5: 1SIX 2IS", true},
		{"5: 1IX", 2, 5, 2, "5: 1IX 2IX", true},
		// Not, while another one has what doesn't fit.
		{"5: 1S", 0, 5, 5, "5: 1S | 0X", false},
		{"5: 1S", 0, 5, 2, "5: 1S | 0IX", false},
		{"5: 1X", 0, 5, 1, "5: 1X | 0IS", false},
		{"5: 1IS 2IX", 0, 5, 3, "5: 1IS 2IX | 0S", false},
		{"5: 1IX 2IS", 0, 5, 3, "5: 1IX 2IS | 0S", false},
		{"4: 1S; 5: 1X; 6: 1S", 2, 5, 3, "4: 1S; 5: 1X | 2S; 6: 1S", false},
		// Nor while somebody is in the Queue, though it fits.
		{"5: 1S | 2X", 0, 5, 3, "5: 1S | 2X 0S", false},
		{"5: 1S | 2X", 0, 5, 1, "5: 1S | 2X 0IS", false},
		{"5: 1S | 2X 3S", 0, 5, 1, "5: 1S | 2X 3S 0IS", false},
		// Who has a lock there is given at once, in its place, though others are in the Queue.
		{"5: 1IS 3IS", 1, 5, 3, "5: 1S 3IS", true},
		{"5: 1S 3S | 2X", 1, 5, 3, "5: 1S 3S | 2X", true},
		{"5: 3IS 1S | 2X", 3, 5, 3, "5: 3S 1S | 2X", true},
		{"5: 1S | 2X", 1, 5, 5, "5: 1X | 2X", true},
		{"5: 1S 3IS | 2X", 1, 5, 2, "5: 1SIX 3IS | 2X", true},
		{"5: 1IX | 2X", 1, 5, 3, "5: 1SIX | 2X", true},
		{"5: 1IX", 1, 5, 3, "5: 1SIX", true},
		// It keeps what is more than what it asks for.
		{"5: 1X", 1, 5, 1, "5: 1X", true},
		{"5: 1X | 2S", 1, 5, 3, "5: 1X | 2S", true},
		{"5: 1SIX 2IS", 1, 5, 3, "5: 1SIX 2IS", true},
		{"5: 1SIX 2IS", 1, 5, 2, "5: 1SIX 2IS", true},
		// What can't be given stands in the Queue as it was asked for, not as it is wished.
		{"5: 1S 2S", 1, 5, 2, "5: 1S 2S | 1IX", false},
		{"5: 1IX 2IX", 1, 5, 3, "5: 1IX 2IX | 1S", false},
		{"5: 1S 2S", 2, 5, 5, "5: 1S 2S | 2X", false},
		// Who has a lock there goes ahead of those who have not,
		{"5: 1S 2S | 3X", 1, 5, 5, "5: 1S 2S | 1X 3X", false},
		{"5: 1S 2S | 3X 4S", 1, 5, 5, "5: 1S 2S | 1X 3X 4S", false},
		// behind those at the front who have one,
		{"5: 1S 2S | 2X", 1, 5, 5, "5: 1S 2S | 2X 1X", false},
		{"5: 1S 2S | 2X 3X", 1, 5, 5, "5: 1S 2S | 2X 1X 3X", false},
		{"5: 1S 2S 4S | 2X 4IX 3X", 1, 5, 5, "5: 1S 2S 4S | 2X 4IX 1X 3X", false},
		// but not behind those who have one and stand behind one who has none.
		{"5: 1S 2S | 3X 2X", 1, 5, 5, "5: 1S 2S | 1X 3X 2X", false},
		{"5: 1S 2S 4S | 4X 3X 2X", 1, 5, 5, "5: 1S 2S 4S | 4X 1X 3X 2X", false},
		{"5: 1S 2S | 2X 3X", 4, 5, 5, "5: 1S 2S | 2X 3X 4X", false},
		// What one has of another item does not count here.
		{"4: 1S; 5: 2S 3S | 4X", 1, 5, 3, "4: 1S; 5: 2S 3S | 4X 1S", false},
		{"5: 2S | 4X; 6: 1S", 1, 5, 5, "5: 2S | 4X 1X; 6: 1S", false},
	} {
		x, want := table(is.was), table(is.want)
		y, given, err := Ask(x, is.tx, is.item, is.mode)
		if !sameTables(y, want) || given != is.given || err != api.OK {
			t.Errorf("Ask(%s, %d, %d, %d): %v %v %d, want %s %v", is.was, is.tx, is.item, is.mode, y, given, err, is.want, is.given)
		}
		wantAsk(t, x, is.tx, is.item, is.mode)
	}
}

func TestP46AskWrong(t *testing.T) {
	x := table("0: 1S; 5: 1S 2S | 1X 3X; 6: 4X")
	for _, n := range []int{math.MinInt, -1 << 32, -1, 1 << 32, math.MaxInt} {
		for _, is := range [][3]int{{n, 5, 1}, {1, n, 1}, {1, 5, n}, {4, n, 1}, {4, 5, n}, {n, n, n}, {12, 5, 1}, {0, 20, 1}, {0, 5, 6}, {0, 5, 0}, {3, 20, 1}, {3, 1, 0}} {
			for _, t2 := range []api.Locks{nil, x} {
				if y, given, err := Ask(t2, is[0], is[1], is[2]); y != nil || given || err != api.ErrArg {
					t.Errorf("Ask(%v, %v): %v %v %d", t2, is, y, given, err)
				}
			}
		}
	}
	// Who waits asks for nothing, of whatever item, be it its own.
	for _, tx := range []int{1, 3} {
		for item := range 20 {
			for mode := 1; mode <= 5; mode++ {
				if y, given, err := Ask(x, tx, item, mode); y != nil || given || err != api.ErrState {
					t.Errorf("Ask(%v, %d, %d, %d): %v %v %d", x, tx, item, mode, y, given, err)
				}
			}
		}
	}
	for _, tx := range []int{0, 2, 4, 11} {
		for item := range 20 {
			for mode := 1; mode <= 5; mode++ {
				wantAsk(t, x, tx, item, mode)
			}
		}
	}
}

func TestP47Drop(t *testing.T) {
	for _, is := range []struct {
		was  string
		tx   int
		want string
		to   []int
	}{
		{"", 0, "", nil},
		{"5: 1S", 0, "5: 1S", nil},
		{"5: 1S", 1, "", nil},
		{"5: 1S 2S", 1, "5: 2S", nil},
		{"5: 1S 2S", 2, "5: 1S", nil},
		{"4: 1S; 5: 1S 2S; 6: 1X", 1, "5: 2S", nil},
		// The Queue's first one, as long as it can be.
		{"5: 1X | 2S", 1, "5: 2S", []int{2}},
		{"5: 1X | 2X 3X", 1, "5: 2X | 3X", []int{2}},
		{"5: 1X | 2S 3S 4IS 0X 5S", 1, "5: 2S 3S 4IS | 0X 5S", []int{2, 3, 4}},
		{"5: 1X | 3IX 0IX 2S 4IX", 1, "5: 3IX 0IX | 2S 4IX", []int{3, 0}},
		{"5: 1S 2S | 3X 4S", 1, "5: 2S | 3X 4S", nil},
		{"5: 1S 2IS | 3IX 4X", 1, "5: 2IS 3IX | 4X", []int{3}},
		// In the place of what it had, by what it wishes.
		{"5: 0IS 1S 2IS | 0X 2IX", 1, "5: 0IS 2IS | 0X 2IX", nil},
		{"5: 0IS 1S 2IS | 2IX 0IX 3IX", 1, "5: 0IX 2IX 3IX", []int{2, 0, 3}},
		{"5: 0S 1S | 0IX 3IS", 1, "5: 0SIX 3IS", []int{0, 3}},
		{"5: 0IX 1IX 2IS | 0S 3S", 1, "5: 0SIX 2IS | 3S", []int{0}},
		{"5: 1S 2S | 1X 3X", 2, "5: 1X | 3X", []int{1}},
		// It leaves the Queue, too, and may have been in others' way there.
		{"5: 1S | 2X", 2, "5: 1S", nil},
		{"5: 1S | 2X 3S 4IS 5X 6S", 2, "5: 1S 3S 4IS | 5X 6S", []int{3, 4}},
		{"5: 1S | 2X 3S", 3, "5: 1S | 2X", nil},
		{"5: 1S | 2X 3X 4S", 3, "5: 1S | 2X 4S", nil},
		{"5: 1S 2S | 1X 3X", 1, "5: 2S | 3X", nil},
		{"5: 1S 2S | 1X 3S", 1, "5: 2S 3S", []int{3}},
		// Item by item; one may be given something of two items.
		{"3: 1X | 9S; 5: 1X | 2S 7S; 8: 1X | 0S", 1, "3: 9S; 5: 2S 7S; 8: 0S", []int{9, 2, 7, 0}},
		{"3: 1X | 2S; 5: 1X | 2S", 1, "3: 2S; 5: 2S", []int{2, 2}},
		{"3: 1X; 5: 1S | 2X; 7: 1S 3S; 9: 4S", 1, "5: 2X; 7: 3S; 9: 4S", []int{2}},
		// What is given to one who waits of another item still changes nothing there.
		{"3: 1X | 2S; 5: 3X | 2S 1S", 1, "3: 2S; 5: 3X | 2S", []int{2}},
	} {
		x, want := table(is.was), table(is.want)
		if y, to, err := Drop(x, is.tx); !sameTables(y, want) || !slices.Equal(to, is.to) || err != api.OK {
			t.Errorf("Drop(%s, %d): %v %v %d, want %s %v", is.was, is.tx, y, to, err, is.want, is.to)
		}
		wantDrop(t, x, is.tx)
	}
}

func TestP47DropWrong(t *testing.T) {
	for _, x := range []api.Locks{nil, {}, table("5: 1S 2S | 1X 3X"), table("0: 11X")} {
		for _, tx := range []int{math.MinInt, -1 << 32, -1, 12, 13, 20, 1 << 32, math.MaxInt} {
			if y, to, err := Drop(x, tx); y != nil || to != nil || err != api.ErrArg {
				t.Errorf("Drop(%v, %d): %v %v %d", x, tx, y, to, err)
			}
		}
		for tx := range 12 {
			wantDrop(t, x, tx)
		}
	}
}

func TestP48Waits(t *testing.T) {
	for s, want := range map[string]string{
		"":                                    "",
		"5: 1S 2S":                            "",
		"5: 1X | 2S":                          "2-1",
		"5: 1S 2S | 3X":                       "3-1 3-2",
		"5: 2S 1S | 0X":                       "0-1 0-2",
		"5: 1S 2S | 1X 3X 4S":                 "1-2 3-1 3-2 4-1 4-3",
		"5: 1S 2IS | 3IX":                     "3-1",
		"5: 1S 2IS | 3IX 4IS":                 "3-1 4-3",
		"5: 1S 2IS | 3X 4IX":                  "3-1 3-2 4-1 4-3",
		"5: 1S 2S | 1X 2X":                    "1-2 2-1",
		"5: 1IS 2S 3IS | 1IX 3IX":             "1-2 3-1 3-2",
		"5: 1IX 2IX 3IS | 1S 3X":              "1-2 3-1 3-2",
		"5: 1X | 11S 0S 10S":                  "0-1 0-11 10-0 10-1 10-11 11-1",
		"4: 1X | 2S; 5: 2X | 1S":              "1-2 2-1",
		"4: 1X | 2S; 5: 1X | 2S 3S":           "2-1 3-1 3-2",
		"0: 1X | 2S; 9: 3X | 1S; 19: 0X | 3S": "1-3 2-1 3-0",
		"4: 5X | 2S; 6: 1X | 2S":              "2-1 2-5",
	} {
		x := table(s)
		wantRight(t, x)
		if waits, err := Waits(x); !slices.Equal(waits, edgesOf(want)) || err != api.OK {
			t.Errorf("Waits(%s): %v %d, want %s", s, waits, err, want)
		}
	}
}

// As many edges as there can be.
func TestP48MostEdges(t *testing.T) {
	var of api.LockItem
	for tx := range 12 {
		of.Held = append(of.Held, api.Lock{Tx: tx, Mode: 1})
		of.Queue = append(of.Queue, api.Lock{Tx: 11 - tx, Mode: 5})
	}
	x := api.Locks{of}
	wantRight(t, x)
	if waits, err := Waits(x); len(waits) != 132 || err != api.OK {
		t.Errorf("%d edges, %d", len(waits), err)
	}
}

// lists hands on each list of at most that many of these locks.
func lists(of []api.Lock, most int, do func([]api.Lock)) {
	var more func(l []api.Lock)
	more = func(l []api.Lock) {
		do(l)
		for _, next := range of {
			if len(l) < most {
				more(append(slices.Clone(l), next))
			}
		}
	}
	more(nil)
}

// wantAll holds all calls to what is told of the table.
func wantAll(t *testing.T, x api.Locks, txs, items int) {
	t.Helper()
	if want := toldCheck(x); want != api.OK {
		if err := Check(x); err != want {
			t.Fatalf("Check(%v): %d, want %d", x, err, want)
		}
		return
	}
	wantRight(t, x)
	for tx := range txs {
		wantDrop(t, x, tx)
		for item := range items {
			for mode := 1; mode <= 5; mode++ {
				wantAsk(t, x, tx, item, mode)
			}
		}
	}
}

// All tables of an item, with few transactions and all the modes.
func TestP45P46P47P48AllSmallTables(t *testing.T) {
	var all []api.Lock
	for tx := range 3 {
		for mode := 1; mode <= 5; mode++ {
			all = append(all, api.Lock{Tx: tx, Mode: mode})
		}
	}
	many := 0
	lists(all, 2, func(held []api.Lock) {
		lists(all, 2, func(queue []api.Lock) {
			many++
			wantAll(t, api.Locks{{Item: 0, Held: held, Queue: queue}}, 4, 1)
		})
	})
	if many != 241*241 {
		t.Errorf("%d tables", many)
	}
}

// someTable is a table by chance, most often not right, but nearly so.
func someTable(r *rand.Rand) api.Locks {
	var x api.Locks
	for item := range 20 {
		if r.Intn(7) > 0 {
			continue
		}
		of := api.LockItem{Item: item}
		txs := r.Perm(12)
		for _, tx := range txs[:1+r.Intn(4)] {
			of.Held = append(of.Held, api.Lock{Tx: tx, Mode: 1 + r.Intn(4)})
		}
		for _, tx := range r.Perm(12)[:r.Intn(4)] {
			of.Queue = append(of.Queue, api.Lock{Tx: tx, Mode: 2 + r.Intn(4)})
		}
		x = append(x, of)
	}
	return x
}

// rightened is the table with all left out that makes it wrong.
func rightened(x api.Locks) api.Locks {
	var right api.Locks
	for _, of := range x {
		next := api.LockItem{Item: of.Item}
		for _, l := range of.Held {
			if toldCan(next, l) {
				next.Held = append(next.Held, l)
			}
		}
		for _, l := range of.Queue {
			if len(next.Queue) > 0 || !toldCan(next, l) {
				next.Queue = append(next.Queue, l)
			}
		}
		right = append(right, next)
	}
	return right
}

// Greater tables, in which one may wait for more than one item. The seed is fixed.
func TestP45P46P47P48GreaterTables(t *testing.T) {
	r := rand.New(rand.NewSource(45))
	wrong := 0
	for range 1500 {
		x := someTable(r)
		if err := toldCheck(x); err != api.OK {
			wrong++
			wantRefused(t, x, err)
		}
		x = rightened(x)
		wantRight(t, x)
		for range 20 {
			wantAsk(t, x, r.Intn(14)-1, r.Intn(22)-1, r.Intn(7))
		}
		for tx := range 12 {
			wantDrop(t, x, tx)
		}
	}
	if wrong < 300 || wrong > 1400 {
		t.Errorf("%d of 1500 are wrong: the tables say too little", wrong)
	}
}

// spoilt is the table with one number in it changed by chance.
func spoilt(r *rand.Rand, x api.Locks) api.Locks {
	x = copied(x)
	of := &x[r.Intn(len(x))]
	list := of.Held
	if r.Intn(2) == 0 && len(of.Queue) > 0 {
		list = of.Queue
	}
	l := &list[r.Intn(len(list))]
	switch r.Intn(4) {
	case 0:
		of.Item = r.Intn(22) - 1
	case 1:
		l.Tx = r.Intn(14) - 1
	default:
		l.Mode = r.Intn(7)
	}
	return x
}

// From the empty table on, ask by ask and drop by drop. The seed is fixed.
func TestP45P46P47P48LongWalks(t *testing.T) {
	r := rand.New(rand.NewSource(46))
	given, waited, woken := 0, 0, 0
	for range 60 {
		var x api.Locks
		txs, items := 2+r.Intn(11), 1+r.Intn(20)
		for range 150 {
			wantRight(t, x)
			if len(x) > 0 {
				bad := spoilt(r, x)
				if err := Check(bad); err != toldCheck(bad) {
					t.Fatalf("Check(%v): %d, want %d", bad, err, toldCheck(bad))
				}
			}
			tx := r.Intn(txs)
			if r.Intn(5) == 0 {
				var to []int
				x, to = wantDrop(t, x, tx)
				woken += len(to)
				continue
			}
			y, is := wantAsk(t, x, tx, r.Intn(items), 1+r.Intn(5))
			if y == nil {
				continue
			}
			if x = y; is {
				given++
			} else {
				waited++
			}
		}
	}
	if given < 500 || waited < 500 || woken < 200 {
		t.Errorf("%d given, %d waited, %d woken: the walks say too little", given, waited, woken)
	}
}

// Whoever is dropped, in the end nothing is left, and whoever was in a Queue was given what it waits for.
func TestP47AllDropOneByOne(t *testing.T) {
	r := rand.New(rand.NewSource(47))
	for range 300 {
		x := rightened(someTable(r))
		for left, tx := range r.Perm(12) {
			x, _ = wantDrop(t, x, tx)
			if left == 11 && len(x) > 0 {
				t.Fatalf("left is %v", x)
			}
		}
	}
}

// spread is the table in lists that have room behind them, which is filled.
func spread(x api.Locks) api.Locks {
	room := []api.Lock{{Tx: -7, Mode: -7}, {Tx: -8, Mode: -8}}
	var y api.Locks
	for _, of := range x {
		held, queue := append(slices.Clone(of.Held), room...), append(slices.Clone(of.Queue), room...)
		y = append(y, api.LockItem{Item: of.Item, Held: held[:len(of.Held)], Queue: queue[:len(of.Queue)]})
	}
	y = append(y, api.LockItem{Item: -7, Held: room}, api.LockItem{Item: -8})
	return y[:len(x)]
}

// wholeOf is all the memory behind the table, its room as well.
func wholeOf(x api.Locks) api.Locks {
	x = slices.Clone(x[:cap(x)])
	for i := range x {
		x[i].Held, x[i].Queue = x[i].Held[:cap(x[i].Held)], x[i].Queue[:cap(x[i].Queue)]
	}
	return x
}

// wipe writes into all the memory behind the table.
func wipe(x api.Locks) {
	for _, of := range wholeOf(x) {
		for i := range of.Held {
			of.Held[i] = api.Lock{Tx: -77, Mode: -77}
		}
		for i := range of.Queue {
			of.Queue[i] = api.Lock{Tx: -77, Mode: -77}
		}
	}
	for i := range x[:cap(x)] {
		x[:cap(x)][i] = api.LockItem{Item: -77}
	}
}

// apartTables are right tables, of some of which nothing is changed by a call.
func apartTables() []api.Locks {
	return []api.Locks{
		nil, {}, table("5: 1S"), table("5: 1S 2S | 1X 3X 4S; 7: 1X | 5S 6S; 9: 0IS 7IS | 7X"),
		table("0: 1X | 2S; 3: 0S; 19: 1S 4S | 3X 6S"), {{Item: 4, Held: locks("1X 2S")[:1], Queue: []api.Lock{}}},
	}
}

// Tables are handed in with room behind their lists: neither they nor the room is changed.
func TestP2WhatIsHandedInIsNotChanged(t *testing.T) {
	for _, right := range apartTables() {
		x := spread(right)
		was := copied(wholeOf(x))
		for tx := range 12 {
			Check(x)
			Waits(x)
			Drop(x, tx)
			for item := range 20 {
				for mode := 1; mode <= 5; mode++ {
					Ask(x, tx, item, mode)
				}
			}
		}
		if !sameTables(wholeOf(x), was) {
			t.Errorf("%v is changed to %v", was, wholeOf(x))
		}
	}
}

// What is done to an answer, or to its room, is not seen in what was handed in.
func TestP2AnswersAreNewMemory(t *testing.T) {
	for _, right := range apartTables() {
		x := spread(right)
		was := copied(wholeOf(x))
		for tx := range 12 {
			y, to, _ := Drop(x, tx)
			wipe(y)
			for i := range to[:cap(to)] {
				to[:cap(to)][i] = -77
			}
			edges, _ := Waits(x)
			for i := range edges[:cap(edges)] {
				edges[:cap(edges)][i] = api.Edge{From: -77}
			}
			for item := range 20 {
				y, _, _ := Ask(x, tx, item, 1+item%5)
				wipe(y)
			}
		}
		if !sameTables(wholeOf(x), was) {
			t.Errorf("%v is changed to %v", was, wholeOf(x))
		}
	}
}

// wantListsApart writes into each list of the table, and its room, and looks for that in all others.
func wantListsApart(t *testing.T, x api.Locks) {
	t.Helper()
	var all [][]api.Lock
	for _, of := range wholeOf(x) {
		all = append(all, of.Held, of.Queue)
	}
	for i, l := range all {
		for k := range l {
			l[k] = api.Lock{Tx: 1000 + i}
		}
	}
	for i, l := range all {
		for _, lock := range l {
			if lock.Tx != 1000+i {
				t.Fatalf("lists %d and %d share memory", i, lock.Tx-1000)
			}
		}
	}
}

func TestP2ListsOfOneAnswerAreApart(t *testing.T) {
	for _, x := range apartTables() {
		for tx := range 12 {
			y, _, _ := Drop(x, tx)
			wantListsApart(t, y)
			for item := range 20 {
				y, _, _ := Ask(x, tx, item, 1+item%5)
				wantListsApart(t, y)
			}
		}
	}
}

func TestP2NothingIsKept(t *testing.T) {
	x := table("5: 1S 2S | 1X 3X 4S; 7: 1X | 5S 6S")
	for _, other := range []api.Locks{nil, table("5: 1S 2S | 3X"), table("0: 1X 2X"), make(api.Locks, 21), table("5: 5X | 2S; 19: 2X")} {
		for tx := range 12 {
			Check(other)
			Waits(other)
			Drop(other, tx)
			Ask(other, tx, 5, 5)
			wantRight(t, x)
			wantDrop(t, x, tx)
			wantAsk(t, x, tx, 5, 5)
		}
	}
}

func TestP2CallsAtOneTime(t *testing.T) {
	x := table("5: 1S 2S | 1X 3X 4S; 7: 1X | 5S 6S; 9: 0IS 7IS | 7X")
	edges := toldWaits(x)
	asked, _, _ := toldAsk(x, 0, 5, 3)
	dropped, to, _ := toldDrop(x, 1)
	var group sync.WaitGroup
	for range 8 {
		group.Go(func() {
			for range 200 {
				if l, err := Waits(x); !slices.Equal(l, edges) || err != api.OK {
					t.Errorf("Waits: %v %d", l, err)
				}
				if y, given, err := Ask(x, 0, 5, 3); !sameTables(y, asked) || given || err != api.OK {
					t.Errorf("Ask: %v %v %d", y, given, err)
				}
				if y, l, err := Drop(x, 1); !sameTables(y, dropped) || !slices.Equal(l, to) || err != api.OK {
					t.Errorf("Drop: %v %v %d", y, l, err)
				}
			}
		})
	}
	group.Wait()
}

func TestP1NoCallPanics(t *testing.T) {
	odd := []int{math.MinInt, -1 << 32, -1, 0, 1, 4, 5, 6, 11, 12, 19, 20, 1 << 32, math.MaxInt}
	right := table("5: 1S 2S | 1X 3X")
	for _, a := range odd {
		for _, b := range odd {
			Fits(a, b)
			Join(a, b)
			for _, c := range odd {
				l := []api.Lock{{Tx: a, Mode: b}, {Tx: b, Mode: a}}
				of := api.LockItem{Item: c, Held: l[:1], Queue: l[1:]}
				for _, x := range []api.Locks{nil, right, {of}, {of, of}, {{Item: c, Held: l, Queue: l}}, {{Item: c, Queue: l}}} {
					Check(x)
					Waits(x)
					Ask(x, a, b, c)
					Drop(x, c)
				}
			}
		}
	}
}
