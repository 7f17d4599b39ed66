package two

import (
	"math"
	"math/rand"
	"slices"
	"strconv"
	"strings"
	"sync"
	"testing"

	"quirestock/api"
	"quirestock/run"
)

// ops reads a run as the chapters write one: r1.2 w11.19 c1 a2.
func ops(s string) []api.Op {
	var l []api.Op
	for _, word := range strings.Fields(s) {
		tx, item, _ := strings.Cut(word[1:], ".")
		o := api.Op{Kind: strings.Index("rwca", word[:1]) + 1}
		o.Tx, _ = strconv.Atoi(tx)
		o.Item, _ = strconv.Atoi(item)
		l = append(l, o)
	}
	return l
}

// text writes a run as ops reads it.
func text(l []api.Op) string {
	var words []string
	for _, o := range l {
		word := "rwca"[o.Kind-1:o.Kind] + strconv.Itoa(o.Tx)
		if o.Kind < 3 {
			word += "." + strconv.Itoa(o.Item)
		}
		words = append(words, word)
	}
	return strings.Join(words, " ")
}

func same(a, b api.Played) bool {
	return slices.Equal(a.Run, b.Run) && slices.Equal(a.Dead, b.Dead) && slices.Equal(a.Late, b.Late)
}

// told goes by the chapter's words, with what is still to be done, in order, as a list: what comes of a thing goes ahead of
// all that was to be done behind it. It has locks of its own.
type told struct {
	has    [20][12]int    // the Kind of the greatest thing that the transaction may do to the item; 0: none
	queue  [20][]api.Op   // what is waited for there
	stands [12][]api.Op   // what a transaction waits for, and what stands behind that
	dead   [12]bool       //
	run    []api.Op       //
	todo   []func()       //
	counts map[string]int // what happened how often
}

func (g *told) next(tasks ...func()) { g.todo = append(tasks, g.todo...) }

func (g *told) count(what string) { g.counts[what]++ }

func (g *told) free(o api.Op) bool {
	for tx, has := range g.has[o.Item] {
		if tx != o.Tx && (has == 2 || has == 1 && o.Kind == 2) {
			return false
		}
	}
	return true
}

func (g *told) give(o api.Op) { g.has[o.Item][o.Tx] = max(o.Kind, g.has[o.Item][o.Tx]) }

func (g *told) take(o api.Op, stood bool) {
	if g.dead[o.Tx] {
		return
	}
	if len(g.stands[o.Tx]) > 0 {
		g.stands[o.Tx] = append(g.stands[o.Tx], o)
		return
	}
	if o.Kind > 2 {
		g.run = append(g.run, o)
		g.drop(o.Tx)
		return
	}
	queue := g.queue[o.Item]
	has := g.has[o.Item][o.Tx] > 0
	if g.free(o) && (has || len(queue) == 0) {
		g.give(o)
		g.run = append(g.run, o)
		return
	}
	at := len(queue)
	if has {
		at = slices.IndexFunc(append(slices.Clone(queue), api.Op{Item: -1}), func(q api.Op) bool {
			return q.Item < 0 || g.has[o.Item][q.Tx] == 0
		})
		g.count("greater")
	}
	g.queue[o.Item] = slices.Insert(queue, at, o)
	g.stands[o.Tx] = []api.Op{o}
	if stood {
		g.count("again")
	}
	g.next(func() { g.look(stood) })
}

func (g *told) drop(tx int) {
	var wakes []func()
	for item := range 20 {
		g.has[item][tx] = 0
		queue := slices.DeleteFunc(g.queue[item], func(o api.Op) bool { return o.Tx == tx })
		for len(queue) > 0 && g.free(queue[0]) {
			o := queue[0]
			g.give(o)
			wakes = append(wakes, func() { g.wake(o.Tx) })
			queue = queue[1:]
		}
		g.queue[item] = queue
	}
	if len(wakes) > 1 {
		g.count("many")
	}
	g.next(wakes...)
}

func (g *told) wake(tx int) {
	g.count("woken")
	stood := g.stands[tx]
	g.stands[tx] = nil
	g.run = append(g.run, stood[0])
	var takes []func()
	for _, o := range stood[1:] {
		takes = append(takes, func() { g.take(o, true) })
	}
	g.next(takes...)
}

// waitsFor tells whether the one waits for the other.
func (g *told) waitsFor(from, to int) bool {
	if from == to || len(g.stands[from]) == 0 {
		return false
	}
	o := g.stands[from][0]
	at := slices.Index(g.queue[o.Item], o)
	if at < 0 {
		return false // It has been given that, and is to be woken.
	}
	has := g.has[o.Item][to]
	return has == 2 || has == 1 && o.Kind == 2 || slices.ContainsFunc(g.queue[o.Item][:at], func(q api.Op) bool { return q.Tx == to })
}

// waitsForItself tells whether one comes from the transaction to itself, by who waits for whom.
func (g *told) waitsForItself(tx int) bool {
	var seen [12]bool
	for ends := []int{tx}; len(ends) > 0; ends = ends[1:] {
		for to := range 12 {
			if !seen[to] && g.waitsFor(ends[0], to) {
				seen[to] = true
				ends = append(ends, to)
			}
		}
	}
	return seen[tx]
}

func (g *told) look(stood bool) {
	for tx := 11; tx >= 0; tx-- {
		if g.waitsForItself(tx) {
			g.count("dead")
			if stood {
				g.count("dead while others wake")
			}
			g.dead[tx], g.stands[tx] = true, nil
			g.run = append(g.run, api.Op{Tx: tx, Kind: 4})
			g.next(func() { g.look(stood) })
			g.drop(tx)
			return
		}
	}
}

// toldPlay is what is told of a right run, and counts what happens.
func toldPlay(l []api.Op, counts map[string]int) api.Played {
	g := told{counts: counts}
	for _, o := range l {
		g.next(func() { g.take(o, false) })
		for len(g.todo) > 0 {
			do := g.todo[0]
			g.todo = g.todo[1:]
			do()
		}
	}
	p := api.Played{Run: g.run}
	for tx := range 12 {
		if g.dead[tx] {
			p.Dead = append(p.Dead, tx)
		}
		if len(g.stands[tx]) > 0 {
			p.Late = append(p.Late, tx)
			counts["late"]++
		}
	}
	return p
}

// of are the transaction's operations.
func of(l []api.Op, tx int) []api.Op {
	var its []api.Op
	for _, o := range l {
		if o.Tx == tx {
			its = append(its, o)
		}
	}
	return its
}

func hasEnded(l []api.Op) bool { return len(l) > 0 && l[len(l)-1].Kind > 2 }

// wantWhole holds what is told to what each transaction wanted to do.
func wantWhole(t *testing.T, l []api.Op, p api.Played) {
	t.Helper()
	allEnd := true
	for tx := range 12 {
		its, done := of(l, tx), of(p.Run, tx)
		allEnd = allEnd && (len(its) == 0 || hasEnded(its))
		dead, late := slices.Contains(p.Dead, tx), slices.Contains(p.Late, tx)
		if dead {
			if !hasEnded(done) || done[len(done)-1].Kind != 4 {
				t.Fatalf("Play(%s): %s, in which %d is dead, and has not aborted", text(l), text(p.Run), tx)
			}
			done = done[:len(done)-1]
		}
		if len(done) > len(its) || !slices.Equal(done, its[:len(done)]) || dead && late {
			t.Fatalf("Play(%s): %s: %d does what it does not want", text(l), text(p.Run), tx)
		}
		if whole := len(done) == len(its); whole == (dead || late) {
			t.Fatalf("Play(%s): %v: is all of %d done? %v", text(l), p, tx, whole)
		}
	}
	if allEnd && len(p.Late) > 0 {
		t.Fatalf("Play(%s): all end, and late are %v", text(l), p.Late)
	}
}

// wantOneBehindAnother holds a run to the chapter's last line.
func wantOneBehindAnother(t *testing.T, l []api.Op) {
	t.Helper()
	if kind, err := run.Kinds(l); !kind.Strict || err != api.OK {
		t.Fatalf("%s: %v %d", text(l), kind, err)
	}
	if _, err := run.Serial(l); err != api.OK {
		t.Fatalf("%s: has a loop: %d", text(l), err)
	}
	edges, _ := run.Edges(l)
	for _, e := range edges {
		if slices.Index(l, api.Op{Tx: e.From, Kind: 3}) > slices.Index(l, api.Op{Tx: e.To, Kind: 3}) {
			t.Fatalf("%s: %d stands ahead of %d, and commits behind it", text(l), e.From, e.To)
		}
	}
}

// wantTold holds Play to what is told of a right run.
func wantTold(t *testing.T, l []api.Op, counts map[string]int) {
	t.Helper()
	p, err := Play(l)
	if want := toldPlay(l, counts); !same(p, want) || err != api.OK {
		t.Fatalf("Play(%s): %s, dead %v, late %v, %d; want %s, %v, %v", text(l), text(p.Run), p.Dead, p.Late, err, text(want.Run), want.Dead, want.Late)
	}
	wantWhole(t, l, p)
	wantOneBehindAnother(t, p.Run)
}

type playCase struct {
	l, run     string
	dead, late []int
}

func wantCases(t *testing.T, cases []playCase) {
	t.Helper()
	for _, is := range cases {
		l := ops(is.l)
		p, err := Play(l)
		if want := (api.Played{Run: ops(is.run), Dead: is.dead, Late: is.late}); !same(p, want) || err != api.OK {
			t.Errorf("Play(%s): %s, dead %v, late %v, %d; want %s, %v, %v", is.l, text(p.Run), p.Dead, p.Late, err, is.run, is.dead, is.late)
		}
		wantTold(t, l, map[string]int{})
	}
}

func wantRefused(t *testing.T, l []api.Op, want api.Errno) {
	t.Helper()
	if p, err := Play(l); p.Run != nil || p.Dead != nil || p.Late != nil || err != want {
		t.Errorf("Play of %d operations: %v %d, want %d", len(l), p, err, want)
	}
}

func TestP52Wrong(t *testing.T) {
	for _, many := range []int{201, 202, 400, 100000} {
		wantRefused(t, slices.Repeat(ops("r0.0"), many), api.ErrLarge)
		// How many they are is looked at ahead of what they are.
		wantRefused(t, make([]api.Op, many), api.ErrLarge)
		wantRefused(t, slices.Repeat([]api.Op{{Tx: 12, Kind: 1}}, many), api.ErrLarge)
	}
	right := ops("w0.1 r1.1 c0")
	for _, odd := range []int{math.MinInt, -1 << 32, -1, 20, 1 << 32, math.MaxInt} {
		wantRefused(t, append(slices.Clone(right), api.Op{Tx: odd, Kind: 1}), api.ErrArg)
		wantRefused(t, append(slices.Clone(right), api.Op{Tx: 1, Kind: 1, Item: odd}), api.ErrArg)
		wantRefused(t, append(slices.Clone(right), api.Op{Tx: 1, Kind: odd}), api.ErrForm)
	}
	for s, want := range map[string]api.Errno{
		"r12.0": api.ErrArg, "w0.20": api.ErrArg, "c12": api.ErrArg, "c0.1": api.ErrForm, "a0.19": api.ErrForm, "c0.20": api.ErrArg,
		"c0 r0.1": api.ErrForm, "a0 r0.1": api.ErrForm, "c0 c0": api.ErrForm, "c0 a0": api.ErrForm, "a0 c0": api.ErrForm,
		"c0 r0.1 r12.0": api.ErrForm, "r12.0 c0 r0.1": api.ErrArg,
		// Who waits when it commits, or is dead by then, has committed in what came all the same.
		"w0.1 r1.1 c1 r1.2":                      api.ErrForm,
		"w0.1 w1.2 w0.2 w1.1 c1 r1.1":            api.ErrForm,
		"w0.1 w1.2 w0.2 w1.1 r1.20":              api.ErrArg,
		"w0.1 w1.2 w0.2 w1.1 c1 c0 r2.1 c2 w2.2": api.ErrForm,
	} {
		wantRefused(t, ops(s), want)
	}
	wantRefused(t, []api.Op{{}}, api.ErrForm)
	wantRefused(t, []api.Op{{Kind: 5}}, api.ErrForm)
}

func TestP52Play(t *testing.T) {
	wantCases(t, []playCase{
		{"", "", nil, nil},
		{"r0.1", "r0.1", nil, nil},
		{"c0", "c0", nil, nil},
		{"a11", "a11", nil, nil},
		{"w11.19 c11 w0.0 a0", "w11.19 c11 w0.0 a0", nil, nil},
		// Those who wait still, rising; none of them is dead.
		{"w2.1 r1.1 r0.1", "w2.1", nil, []int{0, 1}},
		{"w0.1 r11.1 r3.1 c3 r7.1", "w0.1", nil, []int{3, 7, 11}},
		{"w0.1 w1.1 c0 w2.1", "w0.1 c0 w1.1", nil, []int{2}},
		// Those who are dead, rising, whoever was first.
		{"w0.1 w9.2 w0.2 w9.1 w1.3 w4.4 w1.4 w4.3", "w0.1 w9.2 a9 w0.2 w1.3 w4.4 a4 w1.4", []int{4, 9}, nil},
		{"w0.1 w4.2 w0.2 w4.1 w1.3 w9.4 w1.4 w9.3", "w0.1 w4.2 a4 w0.2 w1.3 w9.4 a9 w1.4", []int{4, 9}, nil},
		// Both.
		{"w0.1 w1.2 w0.2 w1.1 r3.1 r2.2", "w0.1 w1.2 a1 w0.2", []int{1}, []int{2, 3}},
	})
}

func TestP52MostOperations(t *testing.T) {
	for _, l := range [][]api.Op{
		slices.Repeat(ops("r0.0"), 200), append(slices.Repeat(ops("w11.19 w0.0"), 99), ops("c11 c0")...),
	} {
		if p, err := Play(l); !slices.Equal(p.Run, l) || p.Dead != nil || p.Late != nil || err != api.OK {
			t.Errorf("%v %d", p, err)
		}
	}
	l := append(ops("w0.1"), slices.Repeat(ops("r1.1"), 199)...)
	wantTold(t, l, map[string]int{})
	l[199] = api.Op{Tx: 0, Kind: 3}
	wantTold(t, l, map[string]int{})
}

func TestP53Locks(t *testing.T) {
	wantCases(t, []playCase{
		// Reads go together, and what is of unlike items.
		{"r0.1 r1.1 r2.1 c0 c1 c2", "r0.1 r1.1 r2.1 c0 c1 c2", nil, nil},
		{"w0.1 w1.2 r2.3 c1 a0 c2", "w0.1 w1.2 r2.3 c1 a0 c2", nil, nil},
		// A write goes with none: who comes to it waits till the other one has ended, in one way or the other.
		{"w0.1 r1.1 c0 c1", "w0.1 c0 r1.1 c1", nil, nil},
		{"w0.1 w1.1 c0 c1", "w0.1 c0 w1.1 c1", nil, nil},
		{"r0.1 w1.1 c0 c1", "r0.1 c0 w1.1 c1", nil, nil},
		{"w0.1 r1.1 a0 c1", "w0.1 a0 r1.1 c1", nil, nil},
		{"w0.1 w1.1 a0 a1", "w0.1 a0 w1.1 a1", nil, nil},
		{"r0.1 w1.1 a0 a1", "r0.1 a0 w1.1 a1", nil, nil},
		// The locks are kept till then, those of reads as well.
		{"r0.1 r0.2 w0.3 w1.1 w2.2 r3.3 w0.4", "r0.1 r0.2 w0.3 w0.4", nil, []int{1, 2, 3}},
		// What has ended has none.
		{"w0.1 r0.2 c0 w1.1 w1.2 a1 r2.1 w3.2", "w0.1 r0.2 c0 w1.1 w1.2 a1 r2.1 w3.2", nil, nil},
		// Its own locks are not in its way.
		{"r0.1 r0.1 w0.1 w0.1 r0.1 c0", "r0.1 r0.1 w0.1 w0.1 r0.1 c0", nil, nil},
		{"w0.1 r0.1 r1.1 c0", "w0.1 r0.1 c0 r1.1", nil, nil},
		{"r0.1 w0.1 r1.1 c0", "r0.1 w0.1 c0 r1.1", nil, nil},
		// Behind who waits there everybody waits, though it goes with what is done,
		{"r0.1 w1.1 r2.1 c0 c1 c2", "r0.1 c0 w1.1 c1 r2.1 c2", nil, nil},
		{"r0.1 r3.1 w1.1 r2.1 c0 c3", "r0.1 r3.1 c0 c3 w1.1", nil, []int{2}},
		// but who has read it goes ahead of those who have not.
		{"r0.1 w1.1 w0.1 c0", "r0.1 w0.1 c0 w1.1", nil, nil},
		{"r0.1 r1.1 w2.1 w0.1 c1 c0", "r0.1 r1.1 c1 w0.1 c0 w2.1", nil, nil},
		{"r0.1 w1.1 r0.1 c0", "r0.1 r0.1 c0 w1.1", nil, nil},
		{"r0.1 r1.1 w0.1 c1 c0", "r0.1 r1.1 c1 w0.1 c0", nil, nil},
	})
}

func TestP53StandsBehind(t *testing.T) {
	wantCases(t, []playCase{
		// Whatever it is.
		{"w0.1 r1.1 w1.2 r1.3 c1 c0", "w0.1 c0 r1.1 w1.2 r1.3 c1", nil, nil},
		{"w0.1 r1.1 a1 c0", "w0.1 c0 r1.1 a1", nil, nil},
		{"w0.1 w1.1 r1.1 w1.1 c0", "w0.1 c0 w1.1 r1.1 w1.1", nil, nil},
		{"w0.1 r1.1 r2.2 w1.2 w3.2 c2 c0", "w0.1 r2.2 c2 w3.2 c0 r1.1", nil, []int{1}},
		// What stands behind has no lock, nor is it asked for.
		{"w0.1 r1.1 w1.2 w2.2 c2 c0", "w0.1 w2.2 c2 c0 r1.1 w1.2", nil, nil},
		{"w0.1 r1.1 w1.2 c1", "w0.1", nil, []int{1}},
		// Who waits has its locks meanwhile, though its Commit has come.
		{"w1.3 w0.1 r1.1 c1 r2.3 c0", "w1.3 w0.1 c0 r1.1 c1 r2.3", nil, nil},
	})
}

func TestP53Wakes(t *testing.T) {
	wantCases(t, []playCase{
		// One after another as they came, and as long as they go together.
		{"w0.1 r3.1 r1.1 r2.1 c0", "w0.1 c0 r3.1 r1.1 r2.1", nil, nil},
		{"w0.1 r3.1 w1.1 r2.1 c0", "w0.1 c0 r3.1", nil, []int{1, 2}},
		{"w0.1 w1.1 r2.1 r3.1 c0 c1", "w0.1 c0 w1.1 c1 r2.1 r3.1", nil, nil},
		// By the items' numbers, not by who came first.
		{"w0.5 w0.3 r1.5 r2.3 c0", "w0.5 w0.3 c0 r2.3 r1.5", nil, nil},
		{"w0.19 w0.0 r1.19 r2.0 r3.19 c0", "w0.19 w0.0 c0 r2.0 r1.19 r3.19", nil, nil},
		// All that stood behind one is taken ahead of the next one,
		{"w0.1 w0.2 r1.1 w1.3 r1.4 r2.2 w2.5 c0", "w0.1 w0.2 c0 r1.1 w1.3 r1.4 r2.2 w2.5", nil, nil},
		{"w0.1 r1.1 c1 r2.1 c2 c0", "w0.1 c0 r1.1 c1 r2.1 c2", nil, nil},
		// and those whom that wakes go on ahead of it, too.
		{"w0.1 w0.2 w1.9 r1.1 c1 r3.9 c3 r2.2 c0", "w0.1 w0.2 w1.9 c0 r1.1 c1 r3.9 c3 r2.2", nil, nil},
		{"w0.1 w1.1 c1 w2.1 c2 w3.1 c3 c0", "w0.1 c0 w1.1 c1 w2.1 c2 w3.1 c3", nil, nil},
		// One that woke may wait again: what is left stands behind that.
		{"w0.1 w2.2 r1.1 r1.2 w1.3 c1 c0 w3.3 c2 c3", "w0.1 w2.2 c0 r1.1 w3.3 c2 r1.2 c3 w1.3 c1", nil, nil},
		{"w0.1 w2.2 w1.3 r1.1 r1.2 c1 r3.3 c0", "w0.1 w2.2 w1.3 c0 r1.1", nil, []int{1, 3}},
		// Of two that woke the first one may take what the second one wants, behind what that is given.
		{"w0.1 w0.2 r1.1 w1.5 r2.2 r2.5 c0", "w0.1 w0.2 c0 r1.1 w1.5 r2.2", nil, []int{2}},
		{"w0.1 w0.2 r1.1 w1.2 r2.2 c2 c0", "w0.1 w0.2 c0 r1.1 r2.2 c2 w1.2", nil, nil},
	})
}

func TestP54Dead(t *testing.T) {
	wantCases(t, []playCase{
		// The greatest one, whoever comes to wait last.
		{"w0.1 w1.2 w0.2 w1.1 c0 c1", "w0.1 w1.2 a1 w0.2 c0", []int{1}, nil},
		{"w0.1 w1.2 w1.1 w0.2 c0 c1", "w0.1 w1.2 a1 w0.2 c0", []int{1}, nil},
		{"w5.1 w11.2 w5.2 w11.1 c5", "w5.1 w11.2 a11 w5.2 c5", []int{11}, nil},
		{"w0.1 w1.2 w2.3 w0.2 w1.3 w2.1 c1 c0", "w0.1 w1.2 w2.3 a2 w1.3 c1 w0.2 c0", []int{2}, nil},
		{"w0.1 w1.2 w2.3 w0.3 w2.2 w1.1 c0 c1", "w0.1 w1.2 w2.3 a2 w0.3 c0 w1.1 c1", []int{2}, nil},
		// Two that both have read it.
		{"r0.1 r1.1 w0.1 w1.1 c0 c1", "r0.1 r1.1 a1 w0.1 c0", []int{1}, nil},
		{"r0.1 r1.1 w1.1 w0.1 c0 c1", "r0.1 r1.1 a1 w0.1 c0", []int{1}, nil},
		{"r0.1 r1.1 r2.1 w1.1 w0.1 c2 c0", "r0.1 r1.1 r2.1 a1 c2 w0.1 c0", []int{1}, nil},
		// Of those on the loop alone: a greater one waits for one of them.
		{"w0.1 w1.2 w9.3 w1.1 r9.1 w0.2 c0", "w0.1 w1.2 w9.3 a1 w0.2 c0 r9.1", []int{1}, nil},
		{"w9.1 r0.1 r1.1 c9", "w9.1 c9 r0.1 r1.1", nil, nil},
		// Who stands ahead in the Queue is waited for, though both go with what is done.
		{"r0.1 w2.5 w3.1 r2.1 r0.5 c2 c0", "r0.1 w2.5 a3 r2.1 c2 r0.5 c0", []int{3}, nil},
		{"r0.1 w9.5 w3.1 r9.1 r0.5 c0", "r0.1 w9.5 a9 r0.5 c0 w3.1", []int{9}, nil},
		{"w0.1 w1.2 w9.3 r9.1 w0.2 w1.1 c0", "w0.1 w1.2 w9.3 a9 a1 w0.2 c0", []int{1, 9}, nil},
		// What stood behind is gone, and nothing of it happens any more.
		{"w0.1 w1.2 w1.1 w1.3 w0.2 w2.3 r1.4 w2.4 c1 c0", "w0.1 w1.2 a1 w0.2 w2.3 w2.4 c0", []int{1}, nil},
		{"w0.1 w1.2 w1.1 c1 w0.2", "w0.1 w1.2 a1 w0.2", []int{1}, nil},
		{"w0.1 w1.2 w0.2 w1.1 a1", "w0.1 w1.2 a1 w0.2", []int{1}, nil},
		// Its locks are dropped, whoever waits for them.
		{"w0.1 w1.2 w1.3 r2.3 w1.1 w0.2", "w0.1 w1.2 w1.3 a1 w0.2 r2.3", []int{1}, nil},
		{"w0.1 w1.3 w1.2 w0.2 w0.4 c0 r2.3 r3.3 w1.1", "w0.1 w1.3 w1.2 a1 w0.2 w0.4 c0 r2.3 r3.3", []int{1}, nil},
	})
}

func TestP54OneAfterAnother(t *testing.T) {
	wantCases(t, []playCase{
		// Two loops at once: the greatest one first, then the next one.
		{"w0.9 r1.1 r2.1 r1.9 r2.9 w0.1", "w0.9 r1.1 r2.1 a2 a1 w0.1", []int{1, 2}, nil},
		{"w2.9 r1.1 r0.1 r1.9 r0.9 w2.1", "w2.9 r1.1 r0.1 a2 r1.9 r0.9", []int{2}, nil},
		// Whoever wakes by the first one goes on ahead of the next one's end.
		{"w0.9 r1.1 r2.1 w2.7 r3.7 c3 r1.9 r2.9 w0.1", "w0.9 r1.1 r2.1 w2.7 a2 r3.7 c3 a1 w0.1", []int{1, 2}, nil},
		// Who wakes by the first one and comes to wait again makes the next one be dead then, and that once alone.
		{"w0.9 r1.1 r2.1 w2.7 w4.8 r3.7 w3.8 r1.9 r2.9 w0.1", "w0.9 r1.1 r2.1 w2.7 w4.8 a2 r3.7 a1 w0.1", []int{1, 2}, []int{3}},
		// Who wakes by one's end may make another loop.
		{"w0.1 w2.2 w2.7 w3.10 w4.8 r3.7 w3.8 r4.10 w0.2 w2.1", "w0.1 w2.2 w2.7 w3.10 w4.8 a2 w0.2 r3.7 a4 w3.8", []int{2, 4}, nil},
	})
}

func TestP54AmidWaking(t *testing.T) {
	wantCases(t, []playCase{
		// Who woke comes to wait, and the other one on the loop is dead: it wakes again.
		{"w0.1 w1.3 w2.2 r1.1 w1.2 c1 r2.3 c0", "w0.1 w1.3 w2.2 c0 r1.1 a2 w1.2 c1", []int{2}, nil},
		// Who woke is dead itself: what stood behind is taken, and nothing happens.
		{"w0.1 w2.3 w1.2 r2.1 w2.2 w2.4 c2 r1.3 c0 w1.4 c1", "w0.1 w2.3 w1.2 c0 r2.1 a2 r1.3 w1.4 c1", []int{2}, nil},
		// Who is given something, and is not awake yet, does not wait for anybody.
		{"w0.1 w0.2 w1.5 w2.6 r1.1 w1.6 r2.2 w2.5 c0", "w0.1 w0.2 w1.5 w2.6 c0 r1.1 r2.2 a2 w1.6", []int{2}, nil},
		// Who wakes again does what it waits for now; what stood behind that from the beginning is taken in its turn, when
		// the others whom the dead one let wake have gone on.
		{"w0.1 w1.6 w3.2 w3.4 r3.6 r2.4 r1.1 w1.2 r1.7 c1 c0", "w0.1 w1.6 w3.2 w3.4 c0 r1.1 a3 w1.2 r2.4 r1.7 c1", []int{3}, nil},
	})
}

// allOps are the operations of that many transactions and items.
func allOps(txs, items int) []api.Op {
	var l []api.Op
	for tx := range txs {
		for item := range items {
			l = append(l, api.Op{Tx: tx, Kind: 1, Item: item}, api.Op{Tx: tx, Kind: 2, Item: item})
		}
		l = append(l, api.Op{Tx: tx, Kind: 3}, api.Op{Tx: tx, Kind: 4})
	}
	return l
}

// runs hands on each right run of exactly that many of these operations.
func runs(from []api.Op, many int, do func([]api.Op)) {
	var more func(l []api.Op)
	more = func(l []api.Op) {
		if len(l) == many {
			do(l)
			return
		}
		for _, o := range from {
			if !hasEnded(of(l, o.Tx)) {
				more(append(l, o))
			}
		}
	}
	more(nil)
}

// All right runs of few operations.
func TestP53P54AllSmallRuns(t *testing.T) {
	counts := map[string]int{}
	for _, is := range []struct{ txs, items, most int }{{1, 2, 4}, {2, 1, 6}, {2, 2, 5}, {3, 1, 5}, {3, 2, 4}} {
		for many := range is.most + 1 {
			runs(allOps(is.txs, is.items), many, func(l []api.Op) { wantTold(t, l, counts) })
		}
	}
	wantEnough(t, counts, 1000, "woken", "dead", "late", "greater")
}

// wantEnough sees to it that what was tried says enough.
func wantEnough(t *testing.T, counts map[string]int, least int, what ...string) {
	t.Helper()
	for _, w := range what {
		if counts[w] < least {
			t.Errorf("%s: %d alone: %v", w, counts[w], counts)
		}
	}
}

// someRun is a right run of at most that many operations, by chance: the greater calm is, the later transactions end. In
// the end some do, or all.
func someRun(r *rand.Rand, txs, items, most, calm int, all bool) []api.Op {
	names, things := r.Perm(12)[:txs], r.Perm(20)[:items]
	var l []api.Op
	for range most - txs {
		o := api.Op{Tx: names[r.Intn(txs)], Kind: 1 + r.Intn(2), Item: things[r.Intn(items)]}
		if r.Intn(calm) == 0 {
			o.Kind, o.Item = 3+r.Intn(5)/4, 0
		}
		if !hasEnded(of(l, o.Tx)) {
			l = append(l, o)
		}
	}
	for _, tx := range names {
		if (all || r.Intn(2) > 0) && !hasEnded(of(l, tx)) {
			l = append(l, api.Op{Tx: tx, Kind: 3})
		}
	}
	return l
}

// Longer runs, with all the transactions and items. The seed is fixed.
func TestP53P54LongRuns(t *testing.T) {
	r := rand.New(rand.NewSource(53))
	counts := map[string]int{}
	for i := range 3000 {
		wantTold(t, someRun(r, 2+r.Intn(4), 1+r.Intn(4), 30, 8, i%2 == 0), counts)
		wantTold(t, someRun(r, 4+r.Intn(9), 3+r.Intn(18), 60, 15, i%2 == 0), counts)
	}
	for i := range 100 {
		wantTold(t, someRun(r, 12, 20, 200, 40, i%2 == 0), counts)
		wantTold(t, someRun(r, 12, 6, 200, 200, i%2 == 0), counts)
	}
	wantEnough(t, counts, 500, "woken", "dead", "late", "greater", "again", "many", "dead while others wake")
}

// Of random lists most are wrong somewhere.
func TestP52RandomLists(t *testing.T) {
	r := rand.New(rand.NewSource(52))
	wrong := 0
	for range 3000 {
		l := make([]api.Op, r.Intn(8))
		for i := range l {
			l[i] = api.Op{Tx: r.Intn(14) - 1, Kind: 1 + r.Intn(2), Item: r.Intn(21)}
			if r.Intn(3) == 0 {
				l[i].Kind, l[i].Item = r.Intn(6), r.Intn(2)
			}
		}
		if want := run.Check(l); want != api.OK {
			wrong++
			wantRefused(t, l, want)
		} else {
			wantTold(t, l, map[string]int{})
		}
	}
	if wrong < 1000 || wrong > 2800 {
		t.Errorf("%d of 3000 are wrong: the lists say too little", wrong)
	}
}

// busy is a run of which some are dead, and some late.
const busy = "w0.1 w1.2 w1.1 r2.3 w3.3 r4.3 w0.2 w1.4 w6.5 w5.6 w5.5 w6.6 c0 r7.5 c2"

// It is handed in with room behind it: neither it nor the room is changed.
func TestP2WhatIsHandedInIsNotChanged(t *testing.T) {
	long := append(ops(busy), api.Op{Tx: -1, Kind: -1, Item: -1}, api.Op{Tx: -2})
	was := slices.Clone(long)
	for many := range len(long) - 1 {
		Play(long[:many])
		if !slices.Equal(long, was) {
			t.Fatalf("%d operations: what was handed in is changed", many)
		}
	}
	Play(long)
	if !slices.Equal(long, was) {
		t.Error("what was refused is changed")
	}
}

// wipe writes into all the memory behind what was told.
func wipe(p api.Played) {
	for i := range p.Run[:cap(p.Run)] {
		p.Run[:cap(p.Run)][i] = api.Op{Tx: -77, Kind: -77, Item: -77}
	}
	for _, l := range [][]int{p.Dead, p.Late} {
		for i := range l[:cap(l)] {
			l[:cap(l)][i] = -77
		}
	}
}

func TestP2AnswersAreApart(t *testing.T) {
	l := ops(busy)
	for many := range len(l) + 1 {
		want := toldPlay(l[:many], map[string]int{})
		first, _ := Play(l[:many])
		second, _ := Play(l[:many])
		wipe(first)
		if !same(second, want) || !slices.Equal(l, ops(busy)) {
			t.Fatalf("%d operations: an answer shares memory", many)
		}
		// One list of an answer is not seen in the others, when it is made longer or is written into.
		third, _ := Play(l[:many])
		wipe(api.Played{Run: third.Run, Dead: third.Dead})
		if !slices.Equal(third.Late, want.Late) {
			t.Fatalf("%d operations: Late is %v", many, third.Late)
		}
		third, _ = Play(l[:many])
		wipe(api.Played{Run: third.Run, Late: third.Late})
		if !slices.Equal(third.Dead, want.Dead) {
			t.Fatalf("%d operations: Dead is %v", many, third.Dead)
		}
	}
	if p, _ := Play(l); len(p.Dead) != 2 || len(p.Late) < 2 {
		t.Errorf("%v says too little", p)
	}
}

func TestP2NothingIsKept(t *testing.T) {
	l := ops(busy)
	want := toldPlay(l, map[string]int{})
	for _, other := range [][]api.Op{nil, ops("w0.1 w1.1"), ops("c0 c0"), make([]api.Op, 201), ops("w0.1 w1.2 w0.2 w1.1"), l} {
		Play(other)
		if p, err := Play(l); !same(p, want) || err != api.OK {
			t.Errorf("behind %v: %v %d", other, p, err)
		}
	}
}

func TestP2CallsAtOneTime(t *testing.T) {
	l := ops(busy)
	want := toldPlay(l, map[string]int{})
	var group sync.WaitGroup
	for range 8 {
		group.Go(func() {
			for range 50 {
				if p, err := Play(l); !same(p, want) || err != api.OK {
					t.Errorf("%v %d", p, err)
				}
			}
		})
	}
	group.Wait()
}

func TestP1NoCallPanics(t *testing.T) {
	odd := []int{math.MinInt, -1 << 32, -1, 0, 1, 2, 3, 4, 5, 11, 12, 19, 20, 1 << 32, math.MaxInt}
	waits := ops("w0.0 w1.1 r1.0 c1")
	for _, tx := range odd {
		for _, kind := range odd {
			for _, item := range odd {
				o := api.Op{Tx: tx, Kind: kind, Item: item}
				for _, l := range [][]api.Op{{o}, {o, o}, append(slices.Clone(waits), o), {o, waits[0], waits[1]}, {waits[0], o, waits[1]}} {
					Play(l)
				}
			}
		}
	}
}
