package wait

import (
	"math"
	"math/rand"
	"slices"
	"strconv"
	"strings"
	"sync"
	"testing"

	"quirestock/api"
)

func edge(from, to int) api.Edge { return api.Edge{From: from, To: to} }

// edgesOf reads edges: 1-2 3-0.
func edgesOf(s string) []api.Edge {
	var l []api.Edge
	for _, word := range strings.Fields(s) {
		from, to, _ := strings.Cut(word, "-")
		var e api.Edge
		e.From, _ = strconv.Atoi(from)
		e.To, _ = strconv.Atoi(to)
		l = append(l, e)
	}
	return l
}

// toldWays tells whether one comes from the one node to the other along one edge or more, by walking from edge to edge.
func toldWays(edges []api.Edge, from, to int) bool {
	var seen [60]bool
	ends := []int{from}
	for len(ends) > 0 {
		k := ends[0]
		ends = ends[1:]
		for _, e := range edges {
			if e.From == k && e.To == to {
				return true
			}
			if e.From == k && !seen[e.To] {
				seen[e.To] = true
				ends = append(ends, e.To)
			}
		}
	}
	return false
}

// toldDead goes by ways: whoever is on a loop, or waits for one that is, at whatever distance, can't ever go on.
func toldDead(n int, edges []api.Edge) []int {
	var onLoop, dead []int
	for k := range n {
		if toldWays(edges, k, k) {
			onLoop = append(onLoop, k)
		}
	}
	for k := range n {
		if slices.ContainsFunc(onLoop, func(m int) bool { return m == k || toldWays(edges, k, m) }) {
			dead = append(dead, k)
		}
	}
	return dead
}

// toldVictims goes from the greatest node to the least: one is taken, if it is on a loop that none of the taken is on.
func toldVictims(n int, edges []api.Edge) []int {
	left := slices.Clone(edges)
	var taken []int
	for k := n - 1; k >= 0; k-- {
		if toldWays(left, k, k) {
			taken = append(taken, k)
			left = slices.DeleteFunc(left, func(e api.Edge) bool { return e.From == k || e.To == k })
		}
	}
	slices.Reverse(taken)
	return taken
}

// wantTold holds both calls to what is told of right edges, and hands on who is dead and who is taken.
func wantTold(t *testing.T, n int, edges []api.Edge) ([]int, []int) {
	t.Helper()
	dead, err := Dead(n, edges)
	if told := toldDead(n, edges); !slices.Equal(dead, told) || err != api.OK {
		t.Fatalf("Dead(%d, %v): %v %d, want %v", n, edges, dead, err, told)
	}
	taken, err := Victims(n, edges)
	if told := toldVictims(n, edges); !slices.Equal(taken, told) || err != api.OK {
		t.Fatalf("Victims(%d, %v): %v %d, want %v", n, edges, taken, err, told)
	}
	return dead, taken
}

// wantRefused holds both calls to graph.Check's error, with no list beside it.
func wantRefused(t *testing.T, n int, edges []api.Edge, want api.Errno) {
	t.Helper()
	if l, err := Dead(n, edges); l != nil || err != want {
		t.Errorf("Dead of %d nodes, %d edges: %v %d, want %d", n, len(edges), l, err, want)
	}
	if l, err := Victims(n, edges); l != nil || err != want {
		t.Errorf("Victims of %d nodes, %d edges: %v %d, want %d", n, len(edges), l, err, want)
	}
}

// someEdges has that many edges between n nodes, by chance; where rise is told, from lesser ones to greater ones alone.
func someEdges(r *rand.Rand, n, many int, rise bool) []api.Edge {
	var edges []api.Edge
	for len(edges) < many {
		e := edge(r.Intn(n), r.Intn(n))
		if !rise || e.From < e.To {
			edges = append(edges, e)
		}
	}
	return edges
}

// named gives the nodes other names, by chance.
func named(r *rand.Rand, n int, edges []api.Edge) []api.Edge {
	names := r.Perm(n)
	var l []api.Edge
	for _, e := range edges {
		l = append(l, edge(names[e.From], names[e.To]))
	}
	return l
}

// allEdges are the edges from each node to each.
func allEdges(n int) []api.Edge {
	var l []api.Edge
	for from := range n {
		for to := range n {
			l = append(l, edge(from, to))
		}
	}
	return l
}

// graphs hands on each graph that has some of these edges.
func graphs(of []api.Edge, do func([]api.Edge)) {
	for mask := range 1 << len(of) {
		var edges []api.Edge
		for i, e := range of {
			if mask>>i&1 == 1 {
				edges = append(edges, e)
			}
		}
		do(edges)
	}
}

func TestP49P50NodesOutOfBounds(t *testing.T) {
	for _, n := range []int{math.MinInt, -1 << 32, -64, -1, 61, 64, 65, 1 << 32, math.MaxInt} {
		wantRefused(t, n, nil, api.ErrArg)
		wantRefused(t, n, []api.Edge{edge(0, 0)}, api.ErrArg)
		// The nodes are looked at ahead of the edges.
		wantRefused(t, n, []api.Edge{edge(-1, 99)}, api.ErrArg)
		wantRefused(t, n, make([]api.Edge, 2001), api.ErrArg)
	}
	for n := range 61 {
		wantTold(t, n, nil)
		wantTold(t, n, []api.Edge{})
	}
}

func TestP49P50TooManyEdges(t *testing.T) {
	for _, many := range []int{2001, 2002, 100000} {
		wantRefused(t, 60, make([]api.Edge, many), api.ErrLarge)
		// How many they are is looked at ahead of their ends.
		wantRefused(t, 0, make([]api.Edge, many), api.ErrLarge)
		wantRefused(t, 2, slices.Repeat([]api.Edge{edge(0, 2)}, many), api.ErrLarge)
	}
	wantTold(t, 1, make([]api.Edge, 2000))
	wantRefused(t, 0, make([]api.Edge, 2000), api.ErrForm)
}

func TestP49P50EndsThatAreNoNodes(t *testing.T) {
	for _, n := range []int{0, 1, 4, 59, 60} {
		for _, k := range []int{math.MinInt, -1 << 32, -64, -1, n, n + 1, 64, 1 << 32, math.MaxInt} {
			wantRefused(t, n, []api.Edge{edge(0, k)}, api.ErrForm)
			wantRefused(t, n, []api.Edge{edge(k, 0)}, api.ErrForm)
			wantRefused(t, n, []api.Edge{edge(k, k)}, api.ErrForm)
			wantRefused(t, n, []api.Edge{edge(0, 0), edge(0, 0), edge(0, k)}, api.ErrForm)
			wantRefused(t, n, []api.Edge{edge(k, 0), edge(0, 0), edge(0, 0)}, api.ErrForm)
		}
	}
	wantRefused(t, 60, append(make([]api.Edge, 1999), edge(0, 60)), api.ErrForm)
}

func TestP49Dead(t *testing.T) {
	for _, is := range []struct {
		n     int
		edges string
		want  []int
	}{
		{0, "", nil},
		{1, "", nil},
		{4, "", nil},
		{6, "0-1 1-2 2-0 3-0 4-5", []int{0, 1, 2, 3}},
		// Whoever waits for nobody comes to be over, then those that wait for it, and so on.
		{4, "0-1 1-2 2-3", nil},
		{4, "3-2 2-1 1-0", nil},
		{4, "0-3 1-3 2-3 0-1 0-2 1-2", nil},
		{1, "0-0", []int{0}},
		{3, "1-1", []int{1}},
		{2, "0-1 1-0", []int{0, 1}},
		// All for which one waits must be over: one that can't go on is enough.
		{4, "0-1 0-2 2-2 3-1", []int{0, 2}},
		{4, "0-2 0-1 2-2 3-1", []int{0, 2}},
		// Who waits for a loop, at whatever distance, is dead; those for which a loop waits are not.
		{5, "4-3 3-2 2-1 1-0 0-1", []int{0, 1, 2, 3, 4}},
		{5, "0-1 1-0 1-2 2-3 0-4", []int{0, 1}},
		// Between two loops, and behind both.
		{6, "0-0 1-0 2-1 2-3 3-3 3-4", []int{0, 1, 2, 3}},
		// An edge that is there more than once is as if it were there once.
		{3, "0-1 0-1 0-1 2-0", nil},
		{3, "0-1 0-1 1-0 1-0", []int{0, 1}},
		{60, "59-59 0-59", []int{0, 59}},
	} {
		dead, err := Dead(is.n, edgesOf(is.edges))
		if !slices.Equal(dead, is.want) || err != api.OK {
			t.Errorf("Dead(%d, %s): %v %d, want %v", is.n, is.edges, dead, err, is.want)
		}
	}
}

func TestP50Victims(t *testing.T) {
	for _, is := range []struct {
		n     int
		edges string
		want  []int
	}{
		{0, "", nil},
		{1, "", nil},
		{4, "0-1 1-2 2-3 0-3", nil},
		{6, "0-1 1-2 2-0 3-0 4-5", []int{2}},
		{3, "1-1 0-2", []int{1}},
		// Of two that wait for each other the greater one is taken.
		{2, "0-1 1-0", []int{1}},
		{2, "1-0 0-1", []int{1}},
		// The greatest that is on a loop, not who waits for it, nor for whom it waits.
		{6, "0-1 1-0 5-0 5-1 0-4 1-4", []int{1}},
		// Behind the first one there may be another loop in what was its part.
		{3, "0-1 1-0 1-2 2-1", []int{1, 2}},
		{3, "0-1 1-0 0-2 2-0", []int{1, 2}},
		{4, "0-1 1-2 2-3 3-0 1-0", []int{1, 3}},
		// With the greatest one gone all loops may be, though another one alone is on all of them.
		{3, "0-2 2-0 1-2 2-1", []int{2}},
		// The edges both from it and to it go.
		{4, "3-0 0-3 3-1 1-3 3-2 2-3", []int{3}},
		// Each part with a loop has one of its own.
		{6, "0-3 3-0 1-4 4-1 2-5 5-2", []int{3, 4, 5}},
		{6, "0-5 5-0 1-2 2-1 3-4", []int{2, 5}},
		// One with an edge to itself is a loop, also beside a greater one, and in a part with others.
		{1, "0-0", []int{0}},
		{4, "0-0 1-1 2-2 3-3", []int{0, 1, 2, 3}},
		{3, "0-0 0-2 2-0", []int{0, 2}},
		{3, "2-2 0-2 2-0", []int{2}},
		{3, "0-1 1-1 1-2", []int{1}},
		// Each waits for each other: all but the least one are taken.
		{4, "0-1 0-2 0-3 1-0 1-2 1-3 2-0 2-1 2-3 3-0 3-1 3-2", []int{1, 2, 3}},
		{3, "0-1 0-1 1-0 1-0", []int{1}},
		{60, "59-59 0-59", []int{59}},
	} {
		taken, err := Victims(is.n, edgesOf(is.edges))
		if !slices.Equal(taken, is.want) || err != api.OK {
			t.Errorf("Victims(%d, %s): %v %d, want %v", is.n, is.edges, taken, err, is.want)
		}
	}
}

func TestP49P50LongWays(t *testing.T) {
	var rising, falling []api.Edge
	for k := 1; k < 60; k++ {
		rising, falling = append(rising, edge(k-1, k)), append(falling, edge(k, k-1))
	}
	for _, edges := range [][]api.Edge{rising, falling} {
		wantTold(t, 60, edges)
		for k := range 60 {
			wantTold(t, 60, append(slices.Clone(edges), edge(59, k)))
			wantTold(t, 60, append(slices.Clone(edges), edge(0, k)))
		}
	}
	wantTold(t, 60, append(rising, falling...))
}

func TestP49P50AllSmallGraphs(t *testing.T) {
	for n := range 5 {
		graphs(allEdges(n), func(edges []api.Edge) { wantTold(t, n, edges) })
	}
}

func TestP49P50GreaterGraphs(t *testing.T) {
	r := rand.New(rand.NewSource(49))
	var free, someDead, severalTaken, onlySomeOfDead int
	for range 3000 {
		n := 2 + r.Intn(59)
		edges := someEdges(r, n, r.Intn(2*n), r.Intn(2) == 0)
		if r.Intn(2) == 0 {
			edges = append(edges, someEdges(r, n, 1+r.Intn(2), false)...)
		}
		dead, taken := wantTold(t, n, named(r, n, edges))
		switch {
		case len(dead) == 0:
			free++
		case len(dead) < n:
			someDead++
		}
		if len(taken) > 1 {
			severalTaken++
		}
		if len(taken) > 0 && len(taken) < len(dead) {
			onlySomeOfDead++
		}
	}
	if free < 300 || someDead < 300 || severalTaken < 300 || onlySomeOfDead < 300 {
		t.Error(free, someDead, severalTaken, onlySomeOfDead)
	}
}

func TestP49P50MostEdges(t *testing.T) {
	r := rand.New(rand.NewSource(50))
	for range 5 {
		wantTold(t, 60, someEdges(r, 60, 2000, false))
		wantTold(t, 60, named(r, 60, someEdges(r, 60, 2000, true)))
		wantTold(t, 60, named(r, 60, append(someEdges(r, 60, 1998, true), edge(40, 20), edge(31, 31))))
	}
	wantTold(t, 44, allEdges(44))
}

// What P50 is for: without those that are taken nobody is dead, and without one of them alone somebody would be.
func TestP50NobodyIsDeadBehindVictims(t *testing.T) {
	r := rand.New(rand.NewSource(51))
	many := 0
	for range 500 {
		n := 1 + r.Intn(12)
		edges := someEdges(r, n, r.Intn(3*n), false)
		taken, _ := Victims(n, edges)
		left := edges
		for _, k := range taken {
			left = slices.DeleteFunc(slices.Clone(left), func(e api.Edge) bool { return e.From == k || e.To == k })
		}
		if dead, _ := Dead(n, left); len(dead) > 0 {
			t.Fatalf("%v without %v: %v are dead", edges, taken, dead)
		}
		many += len(taken)
	}
	if many < 500 {
		t.Error(many)
	}
}

func TestP51Rule(t *testing.T) {
	for _, pair := range [][2]int{{0, 1}, {1, 2}, {0, 11}, {10, 11}, {3, 7}, {-5, -4}, {-1, 0}, {11, 12}, {-1 << 40, 1 << 40}, {math.MinInt, math.MaxInt}, {math.MinInt, -1}, {1, math.MaxInt}} {
		older, younger := pair[0], pair[1]
		for _, is := range []struct{ rule, asks, has, want int }{
			{1, older, younger, 1},
			{1, younger, older, 2},
			{2, older, younger, 3},
			{2, younger, older, 1},
		} {
			if do, err := Rule(is.rule, is.asks, is.has); do != is.want || err != api.OK {
				t.Errorf("Rule(%d, %d, %d): %d %d, want %d", is.rule, is.asks, is.has, do, err, is.want)
			}
		}
	}
	for asks := range 12 {
		for has := range 12 {
			if asks == has {
				continue
			}
			waitDie, woundWait := 1, 3
			if asks > has {
				waitDie, woundWait = 2, 1
			}
			if do, err := Rule(api.WaitDie, asks, has); do != waitDie || err != api.OK {
				t.Errorf("Rule(WaitDie, %d, %d): %d %d", asks, has, do, err)
			}
			if do, err := Rule(api.WoundWait, asks, has); do != woundWait || err != api.OK {
				t.Errorf("Rule(WoundWait, %d, %d): %d %d", asks, has, do, err)
			}
		}
	}
}

func TestP51RuleWrong(t *testing.T) {
	odd := []int{math.MinInt, -1 << 32, -2, -1, 0, 1, 2, 11, 12, 1 << 32, math.MaxInt}
	for _, rule := range []int{math.MinInt, -1 << 32, -2, -1, 0, 3, 4, 5, 1<<32 + 1, 1<<32 + 2, math.MaxInt} {
		for _, asks := range odd {
			for _, has := range odd {
				// The rule is looked at ahead of the two: they may be the same.
				if do, err := Rule(rule, asks, has); do != 0 || err != api.ErrArg {
					t.Errorf("Rule(%d, %d, %d): %d %d", rule, asks, has, do, err)
				}
			}
		}
	}
	for _, rule := range []int{1, 2} {
		for _, tx := range odd {
			if do, err := Rule(rule, tx, tx); do != 0 || err != api.ErrForm {
				t.Errorf("Rule(%d, %d, %d): %d %d", rule, tx, tx, do, err)
			}
		}
	}
}

func TestP2WhatIsHandedInIsNotChanged(t *testing.T) {
	for _, s := range []string{"", "0-1 1-0", "0-1 1-2 2-0 3-0 4-5", "5-5 0-1 1-0 3-2 2-3 4-0", "0-1 1-2 2-3"} {
		room := append(edgesOf(s), slices.Repeat([]api.Edge{edge(-7, -7)}, 9)...)
		was := slices.Clone(room)
		edges := room[:len(room)-9]
		dead, _ := Dead(6, edges)
		taken, _ := Victims(6, edges)
		for _, l := range [][]int{dead[:cap(dead)], taken[:cap(taken)]} {
			for i := range l {
				l[i] = -77
			}
		}
		if !slices.Equal(room, was) {
			t.Errorf("%v is changed to %v", was, room)
		}
	}
}

func TestP2NothingIsKept(t *testing.T) {
	edges := edgesOf("0-1 1-2 2-0 3-0 4-5")
	for _, other := range []string{"", "5-5", "9-9", "0-1 1-0 2-3 3-2"} {
		dead, taken := wantTold(t, 6, edges)
		for i := range dead[:cap(dead)] {
			dead[:cap(dead)][i] = -77
		}
		for i := range taken[:cap(taken)] {
			taken[:cap(taken)][i] = -77
		}
		Dead(6, edgesOf(other))
		Victims(6, edgesOf(other))
		Rule(1, 2, 3)
		wantTold(t, 6, edges)
	}
}

func TestP2CallsAtOneTime(t *testing.T) {
	edges := edgesOf("0-1 1-2 2-0 3-0 4-5 5-5")
	var group sync.WaitGroup
	for range 8 {
		group.Go(func() {
			for range 200 {
				if l, err := Dead(7, edges); !slices.Equal(l, []int{0, 1, 2, 3, 4, 5}) || err != api.OK {
					t.Errorf("Dead: %v %d", l, err)
				}
				if l, err := Victims(7, edges); !slices.Equal(l, []int{2, 5}) || err != api.OK {
					t.Errorf("Victims: %v %d", l, err)
				}
				if do, err := Rule(api.WaitDie, 1, 2); do != api.DoWait || err != api.OK {
					t.Errorf("Rule: %d %d", do, err)
				}
			}
		})
	}
	group.Wait()
}

func TestP1NoCallPanics(t *testing.T) {
	odd := []int{math.MinInt, -1 << 32, -64, -1, 0, 1, 2, 3, 59, 60, 61, 63, 64, 1 << 32, math.MaxInt}
	for _, n := range odd {
		for _, from := range odd {
			for _, to := range odd {
				Rule(n, from, to)
				edges := []api.Edge{edge(from, to), edge(to, from)}
				for k := range 3 {
					Dead(n, edges[:k])
					Victims(n, edges[:k])
				}
			}
		}
	}
}
