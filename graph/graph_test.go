package graph

import (
	"math"
	"math/rand"
	"slices"
	"sync"
	"testing"

	"quirestock/api"
)

func edge(from, to int) api.Edge { return api.Edge{From: from, To: to} }

// toldWays tells whether one comes from the one node to the other along one edge or more, by walking from edge to edge.
func toldWays(edges []api.Edge, from, to int) bool {
	seen := make([]bool, 60)
	ends := []int{from}
	for len(ends) > 0 {
		k := ends[0]
		ends = ends[1:]
		for _, e := range edges {
			if e.From == k && e.To == to {
				return true
			}
			if e.From == k && !seen[e.To] {
				seen[e.To] = true
				ends = append(ends, e.To)
			}
		}
	}
	return false
}

func toldReach(n int, edges []api.Edge, from int) []int {
	var l []int
	for to := range n {
		if toldWays(edges, from, to) {
			l = append(l, to)
		}
	}
	return l
}

// toldParts goes by each two nodes alone.
func toldParts(n int, edges []api.Edge) [][]int {
	var parts [][]int
	for k := range n {
		var part []int
		for m := range n {
			if m == k || toldWays(edges, k, m) && toldWays(edges, m, k) {
				part = append(part, m)
			}
		}
		if part[0] == k {
			parts = append(parts, part)
		}
	}
	return parts
}

func hasLoop(n int, edges []api.Edge) bool {
	for k := range n {
		if toldWays(edges, k, k) {
			return true
		}
	}
	return false
}

// toldOrder tries node by node whether all edges to it come from those that stand already.
func toldOrder(n int, edges []api.Edge) ([]int, api.Errno) {
	if hasLoop(n, edges) {
		return nil, api.ErrLoop
	}
	var order []int
	for len(order) < n {
		for k := range n {
			waits := slices.ContainsFunc(edges, func(e api.Edge) bool { return e.To == k && !slices.Contains(order, e.From) })
			if !waits && !slices.Contains(order, k) {
				order = append(order, k)
				break
			}
		}
	}
	return order, api.OK
}

// leastOrder is the least list of all that have each node ahead of those to which an edge goes from it, found by trying
// all lists in their order; nil, if there is none.
func leastOrder(n int, edges []api.Edge) []int {
	var found []int
	var try func(l []int) bool
	try = func(l []int) bool {
		if len(l) == n {
			found = slices.Clone(l)
			return keepsEdges(found, edges)
		}
		for k := range n {
			if !slices.Contains(l, k) && try(append(l, k)) {
				return true
			}
		}
		return false
	}
	if !try(nil) {
		return nil
	}
	return found
}

func keepsEdges(order []int, edges []api.Edge) bool {
	for _, e := range edges {
		if slices.Index(order, e.From) >= slices.Index(order, e.To) {
			return false
		}
	}
	return true
}

func sameParts(a, b [][]int) bool { return slices.EqualFunc(a, b, slices.Equal) }

// wantTold holds all calls to what is told of a right graph.
func wantTold(t *testing.T, n int, edges []api.Edge) {
	t.Helper()
	if err := Check(n, edges); err != api.OK {
		t.Fatalf("Check(%d, %v): %d", n, edges, err)
	}
	order, err := Order(n, edges)
	if told, toldErr := toldOrder(n, edges); !slices.Equal(order, told) || err != toldErr {
		t.Fatalf("Order(%d, %v): %v %d, want %v %d", n, edges, order, err, told, toldErr)
	}
	parts, err := Parts(n, edges)
	if told := toldParts(n, edges); !sameParts(parts, told) || err != api.OK {
		t.Fatalf("Parts(%d, %v): %v %d, want %v", n, edges, parts, err, told)
	}
	for from := range n {
		reach, err := Reach(n, edges, from)
		if told := toldReach(n, edges, from); !slices.Equal(reach, told) || err != api.OK {
			t.Fatalf("Reach(%d, %v, %d): %v %d, want %v", n, edges, from, reach, err, told)
		}
	}
	wantNoFrom(t, n, edges)
}

// wantNoFrom holds Reach to ErrArg, where it is not given a node.
func wantNoFrom(t *testing.T, n int, edges []api.Edge) {
	t.Helper()
	for _, from := range []int{math.MinInt, -1 << 32, -64, -1, n, n + 1, n + 64, 1 << 32, math.MaxInt} {
		if reach, err := Reach(n, edges, from); reach != nil || err != api.ErrArg {
			t.Fatalf("Reach(%d, %v, %d): %v %d", n, edges, from, reach, err)
		}
	}
}

// wantRefused holds all calls to Check's error, whatever else is wrong.
func wantRefused(t *testing.T, n int, edges []api.Edge, want api.Errno) {
	t.Helper()
	if err := Check(n, edges); err != want {
		t.Errorf("Check of %d nodes, %d edges: %d, want %d", n, len(edges), err, want)
	}
	if l, err := Order(n, edges); l != nil || err != want {
		t.Errorf("Order of %d nodes, %d edges: %v %d, want %d", n, len(edges), l, err, want)
	}
	if l, err := Parts(n, edges); l != nil || err != want {
		t.Errorf("Parts of %d nodes, %d edges: %v %d, want %d", n, len(edges), l, err, want)
	}
	for _, from := range []int{math.MinInt, -1, 0, 1, 59, 60, math.MaxInt} {
		if l, err := Reach(n, edges, from); l != nil || err != want {
			t.Errorf("Reach of %d nodes, %d edges, from %d: %v %d, want %d", n, len(edges), from, l, err, want)
		}
	}
}

// someEdges has that many edges between n nodes, by chance; where rise is told, from lesser ones to greater ones alone.
func someEdges(r *rand.Rand, n, many int, rise bool) []api.Edge {
	var edges []api.Edge
	for len(edges) < many {
		e := edge(r.Intn(n), r.Intn(n))
		if !rise || e.From < e.To {
			edges = append(edges, e)
		}
	}
	return edges
}

// named gives the nodes other names, by chance.
func named(r *rand.Rand, n int, edges []api.Edge) []api.Edge {
	names := r.Perm(n)
	var l []api.Edge
	for _, e := range edges {
		l = append(l, edge(names[e.From], names[e.To]))
	}
	return l
}

// allEdges are the edges from each node to each.
func allEdges(n int) []api.Edge {
	var l []api.Edge
	for from := range n {
		for to := range n {
			l = append(l, edge(from, to))
		}
	}
	return l
}

// graphs hands on each graph that has some of these edges.
func graphs(of []api.Edge, do func([]api.Edge)) {
	for mask := range 1 << len(of) {
		var edges []api.Edge
		for i, e := range of {
			if mask>>i&1 == 1 {
				edges = append(edges, e)
			}
		}
		do(edges)
	}
}

func TestP33NodesOutOfBounds(t *testing.T) {
	bad := []api.Edge{edge(-1, 99)}
	for _, n := range []int{math.MinInt, -1 << 32, -64, -1, 61, 64, 65, 1 << 32, math.MaxInt} {
		wantRefused(t, n, nil, api.ErrArg)
		wantRefused(t, n, []api.Edge{edge(0, 0)}, api.ErrArg)
		// The nodes are looked at ahead of the edges.
		wantRefused(t, n, bad, api.ErrArg)
		wantRefused(t, n, make([]api.Edge, 2001), api.ErrArg)
	}
	for n := range 61 {
		if err := Check(n, nil); err != api.OK {
			t.Errorf("Check of %d nodes: %d", n, err)
		}
		if err := Check(n, []api.Edge{}); err != api.OK {
			t.Errorf("Check of %d nodes and an empty list: %d", n, err)
		}
	}
}

func TestP33TooManyEdges(t *testing.T) {
	for _, many := range []int{2001, 2002, 4000, 100000} {
		wantRefused(t, 60, make([]api.Edge, many), api.ErrLarge)
		wantRefused(t, 1, make([]api.Edge, many), api.ErrLarge)
		// How many they are is looked at ahead of their ends.
		wantRefused(t, 0, make([]api.Edge, many), api.ErrLarge)
		wantRefused(t, 2, slices.Repeat([]api.Edge{edge(0, 2)}, many), api.ErrLarge)
	}
	if err := Check(1, make([]api.Edge, 2000)); err != api.OK {
		t.Errorf("Check of 2000 edges: %d", err)
	}
	wantRefused(t, 0, make([]api.Edge, 2000), api.ErrForm)
}

func TestP33EndsThatAreNoNodes(t *testing.T) {
	for _, n := range []int{0, 1, 4, 59, 60} {
		for _, k := range []int{math.MinInt, -1 << 32, -64, -1, n, n + 1, 64, 1 << 32, math.MaxInt} {
			wantRefused(t, n, []api.Edge{edge(0, k)}, api.ErrForm)
			wantRefused(t, n, []api.Edge{edge(k, 0)}, api.ErrForm)
			wantRefused(t, n, []api.Edge{edge(k, k)}, api.ErrForm)
			// Right ones ahead of it or behind it, and a loop, do not make up for it.
			wantRefused(t, n, []api.Edge{edge(0, 0), edge(0, 0), edge(0, k)}, api.ErrForm)
			wantRefused(t, n, []api.Edge{edge(k, 0), edge(0, 0), edge(0, 0)}, api.ErrForm)
		}
	}
	last := append(make([]api.Edge, 1999), edge(0, 60))
	wantRefused(t, 60, last, api.ErrForm)
	for k := range 60 {
		edges := []api.Edge{edge(k, 59-k), edge(k, k), edge(k, 0), edge(k, 59)}
		if err := Check(60, edges); err != api.OK {
			t.Errorf("Check(60, %v): %d", edges, err)
		}
		if err := Check(k+1, []api.Edge{edge(k, 0), edge(0, k), edge(k, k)}); err != api.OK {
			t.Errorf("Check of the last of %d: %d", k+1, err)
		}
	}
}

func TestP34Order(t *testing.T) {
	for _, is := range []struct {
		n     int
		edges []api.Edge
		want  []int
		err   api.Errno
	}{
		{3, []api.Edge{edge(2, 0)}, []int{1, 2, 0}, api.OK},
		{0, nil, nil, api.OK},
		{1, nil, []int{0}, api.OK},
		{5, nil, []int{0, 1, 2, 3, 4}, api.OK},
		{4, []api.Edge{edge(3, 1), edge(3, 0)}, []int{2, 3, 0, 1}, api.OK},
		// The least one that can stand there, not the one that has waited longest, nor one of the next rank.
		{4, []api.Edge{edge(1, 0)}, []int{1, 0, 2, 3}, api.OK},
		{5, []api.Edge{edge(2, 0), edge(0, 1)}, []int{2, 0, 1, 3, 4}, api.OK},
		{5, []api.Edge{edge(3, 0), edge(4, 1), edge(0, 2)}, []int{3, 0, 2, 4, 1}, api.OK},
		{4, []api.Edge{edge(1, 0), edge(3, 0)}, []int{1, 2, 3, 0}, api.OK},
		// No node is drawn ahead for the sake of one behind it: 2 goes ahead of 3, though 1 waits for 3.
		{4, []api.Edge{edge(3, 1)}, []int{0, 2, 3, 1}, api.OK},
		// An edge that is there more than once is as if it were there once.
		{3, []api.Edge{edge(2, 0), edge(2, 0), edge(2, 0)}, []int{1, 2, 0}, api.OK},
		{3, []api.Edge{edge(2, 1), edge(1, 0), edge(2, 0), edge(2, 1)}, []int{2, 1, 0}, api.OK},
		{1, []api.Edge{edge(0, 0)}, nil, api.ErrLoop},
		{3, []api.Edge{edge(1, 1)}, nil, api.ErrLoop},
		{2, []api.Edge{edge(0, 1), edge(1, 0)}, nil, api.ErrLoop},
		{5, []api.Edge{edge(1, 2), edge(2, 3), edge(3, 1)}, nil, api.ErrLoop},
		{5, []api.Edge{edge(0, 1), edge(1, 2), edge(2, 3), edge(3, 4), edge(4, 3)}, nil, api.ErrLoop},
		{60, []api.Edge{edge(59, 59)}, nil, api.ErrLoop},
	} {
		order, err := Order(is.n, is.edges)
		if !slices.Equal(order, is.want) || err != is.err {
			t.Errorf("Order(%d, %v): %v %d, want %v %d", is.n, is.edges, order, err, is.want, is.err)
		}
		if err != api.OK && order != nil {
			t.Errorf("Order(%d, %v): a list beside an error", is.n, is.edges)
		}
	}
}

// That the order is the least list is found by trying all lists.
func TestP34OrderIsTheLeastList(t *testing.T) {
	r := rand.New(rand.NewSource(34))
	want := func(n int, edges []api.Edge) {
		t.Helper()
		wanted, wantErr := leastOrder(n, edges), api.OK
		if wanted == nil && n > 0 {
			wantErr = api.ErrLoop
		}
		if order, err := Order(n, edges); !slices.Equal(order, wanted) || err != wantErr {
			t.Fatalf("Order(%d, %v): %v %d, want %v %d", n, edges, order, err, wanted, wantErr)
		}
	}
	for n := range 4 {
		graphs(allEdges(n), func(edges []api.Edge) { want(n, edges) })
	}
	for range 2000 {
		n := 2 + r.Intn(5)
		want(n, named(r, n, someEdges(r, n, r.Intn(2*n), true)))
	}
}

func TestP34LongWays(t *testing.T) {
	var rising, falling []api.Edge
	var up, down []int
	for k := range 60 {
		up, down = append(up, k), append(down, 59-k)
		if k > 0 {
			rising, falling = append(rising, edge(k-1, k)), append(falling, edge(k, k-1))
		}
	}
	for _, is := range []struct {
		edges []api.Edge
		want  []int
	}{{rising, up}, {falling, down}} {
		if order, err := Order(60, is.edges); !slices.Equal(order, is.want) || err != api.OK {
			t.Errorf("Order: %v %d", order, err)
		}
		for k := range 60 {
			loop := append(slices.Clone(is.edges), edge(is.want[59], is.want[k]))
			if order, err := Order(60, loop); order != nil || err != api.ErrLoop {
				t.Errorf("Order of a loop: %v %d", order, err)
			}
			wantTold(t, 60, loop)
		}
		wantTold(t, 60, is.edges)
	}
}

func TestP35Parts(t *testing.T) {
	for _, is := range []struct {
		n     int
		edges []api.Edge
		want  [][]int
	}{
		{0, nil, nil},
		{1, nil, [][]int{{0}}},
		{1, []api.Edge{edge(0, 0)}, [][]int{{0}}},
		{3, nil, [][]int{{0}, {1}, {2}}},
		{4, []api.Edge{edge(3, 1), edge(0, 2), edge(2, 0), edge(2, 1)}, [][]int{{0, 2}, {1}, {3}}},
		// A way to it alone, or from it, does not make one part.
		{3, []api.Edge{edge(0, 1), edge(1, 2), edge(0, 2)}, [][]int{{0}, {1}, {2}}},
		{3, []api.Edge{edge(2, 1), edge(1, 2), edge(0, 2)}, [][]int{{0}, {1, 2}}},
		{3, []api.Edge{edge(0, 2), edge(2, 1), edge(1, 0)}, [][]int{{0, 1, 2}}},
		// Two loops with a node between them are one part; with one edge between them they are two.
		{5, []api.Edge{edge(4, 2), edge(2, 4), edge(2, 0), edge(0, 2)}, [][]int{{0, 2, 4}, {1}, {3}}},
		{4, []api.Edge{edge(3, 0), edge(0, 3), edge(1, 2), edge(2, 1), edge(3, 1)}, [][]int{{0, 3}, {1, 2}}},
		// The lesser first node goes ahead, not the lesser part.
		{5, []api.Edge{edge(1, 3), edge(3, 1), edge(2, 0), edge(0, 4), edge(4, 2)}, [][]int{{0, 2, 4}, {1, 3}}},
		{4, []api.Edge{edge(0, 3), edge(0, 3), edge(3, 0), edge(3, 3)}, [][]int{{0, 3}, {1}, {2}}},
	} {
		if parts, err := Parts(is.n, is.edges); !sameParts(parts, is.want) || err != api.OK {
			t.Errorf("Parts(%d, %v): %v %d, want %v", is.n, is.edges, parts, err, is.want)
		}
	}
}

func TestP35Reach(t *testing.T) {
	edges := []api.Edge{edge(3, 1), edge(0, 2), edge(2, 0), edge(2, 1), edge(4, 4), edge(5, 4), edge(5, 4)}
	for from, want := range [][]int{{0, 1, 2}, nil, {0, 1, 2}, {1}, {4}, {4}, nil} {
		if reach, err := Reach(7, edges, from); !slices.Equal(reach, want) || err != api.OK {
			t.Errorf("Reach from %d: %v %d, want %v", from, reach, err, want)
		}
	}
	for _, n := range []int{0, 1, 7, 59, 60} {
		wantNoFrom(t, n, nil)
	}
	wantNoFrom(t, 7, edges)
}

// All graphs of few nodes, with edges from a node to itself.
func TestP33P34P35AllSmallGraphs(t *testing.T) {
	for n := range 4 {
		graphs(allEdges(n), func(edges []api.Edge) { wantTold(t, n, edges) })
	}
	r := rand.New(rand.NewSource(33))
	graphs(slices.DeleteFunc(allEdges(4), func(e api.Edge) bool { return e.From == e.To }), func(edges []api.Edge) {
		wantTold(t, 4, edges)
		r.Shuffle(len(edges), func(i, k int) { edges[i], edges[k] = edges[k], edges[i] })
		wantTold(t, 4, edges)
	})
}

// Greater graphs, few edges and many. The seed is fixed.
func TestP33P34P35GreaterGraphs(t *testing.T) {
	r := rand.New(rand.NewSource(35))
	for i := range 120 {
		n := 5 + r.Intn(56)
		wantTold(t, n, someEdges(r, n, r.Intn(2*n), false))
		wantTold(t, n, named(r, n, someEdges(r, n, r.Intn(3*n), true)))
		if i%60 == 0 {
			wantTold(t, 60, someEdges(r, 60, 2000, false))
			wantTold(t, 60, named(r, 60, someEdges(r, 60, 2000, true)))
		}
	}
}

// As many edges as there may be, with all ways open and with none back.
func TestP33P34P35MostEdges(t *testing.T) {
	all := allEdges(44)
	wantTold(t, 44, all)
	wantTold(t, 60, all)
	var most []api.Edge
	for len(most) < 2000 {
		most = append(most, edge(59, 0))
	}
	wantTold(t, 60, most)
	most[1999] = edge(0, 59)
	wantTold(t, 60, most)
	most[1999] = edge(30, 30)
	wantTold(t, 60, most)
}

// The edges are handed in with room behind them: neither they nor the room is changed, and what is done to an answer or
// its room is not seen in them, nor in another answer.
func TestP2ListsAreApart(t *testing.T) {
	long := []api.Edge{edge(3, 1), edge(5, 4), edge(3, 0), edge(1, 2), edge(2, 1), edge(4, 5), edge(-1, -1), edge(-2, 9)}
	was := slices.Clone(long)
	for many := range 7 {
		var lists [][]int
		for range 2 {
			order, _ := Order(6, long[:many])
			parts, _ := Parts(6, long[:many])
			lists = append(append(lists, order), parts...)
			for from := range 6 {
				reach, _ := Reach(6, long[:many], from)
				lists = append(lists, reach)
			}
		}
		for i, l := range lists {
			all := l[:cap(l)]
			for k := range all {
				all[k] = -77
			}
			for _, other := range lists[i+1:] {
				if slices.Contains(other[:cap(other)], -77) {
					t.Fatalf("%d edges: two lists share memory", many)
				}
			}
		}
		if !slices.Equal(long, was) {
			t.Fatalf("%d edges: what was handed in is changed", many)
		}
	}
}

func TestP2PartsAreNewMemory(t *testing.T) {
	edges := []api.Edge{edge(0, 1), edge(1, 0)}
	first, _ := Parts(3, edges)
	second, _ := Parts(3, edges)
	for i := range first[:cap(first)] {
		first[:cap(first)][i] = nil
	}
	if !sameParts(second, [][]int{{0, 1}, {2}}) {
		t.Errorf("two answers share memory: %v", second)
	}
}

func TestP2NothingIsKept(t *testing.T) {
	edges := []api.Edge{edge(2, 0), edge(3, 3)}
	wantTold(t, 4, edges)
	for _, other := range [][]api.Edge{allEdges(44), {edge(0, 60)}, make([]api.Edge, 2001), nil} {
		Check(60, other)
		Order(60, other)
		Parts(60, other)
		Reach(60, other, 0)
		wantTold(t, 4, edges)
	}
}

func TestP2CallsAtOneTime(t *testing.T) {
	edges := someEdges(rand.New(rand.NewSource(2)), 20, 15, true)
	order, _ := toldOrder(20, edges)
	parts, reach := toldParts(20, edges), toldReach(20, edges, 3)
	var group sync.WaitGroup
	for range 8 {
		group.Go(func() {
			for range 100 {
				if l, err := Order(20, edges); !slices.Equal(l, order) || err != api.OK {
					t.Errorf("Order: %v %d", l, err)
				}
				if l, err := Parts(20, edges); !sameParts(l, parts) || err != api.OK {
					t.Errorf("Parts: %v %d", l, err)
				}
				if l, err := Reach(20, edges, 3); !slices.Equal(l, reach) || err != api.OK {
					t.Errorf("Reach: %v %d", l, err)
				}
			}
		})
	}
	group.Wait()
}

func TestP1NoCallPanics(t *testing.T) {
	odd := []int{math.MinInt, -1 << 32, -64, -1, 0, 1, 2, 59, 60, 61, 63, 64, 1 << 32, math.MaxInt}
	for _, n := range odd {
		for _, from := range odd {
			for _, to := range odd {
				edges := []api.Edge{edge(from, to), edge(to, from)}
				for k := range 3 {
					Check(n, edges[:k])
					Order(n, edges[:k])
					Parts(n, edges[:k])
					Reach(n, edges[:k], to)
				}
			}
		}
	}
}
