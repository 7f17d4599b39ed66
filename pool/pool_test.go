package pool

import (
	"fmt"
	"math"
	"math/rand"
	"slices"
	"sync"
	"testing"

	"quirestock/api"
)

type call func(size int, refs []int) ([]bool, []int, api.Errno)

// kinds are the calls that keep a pool, each with the chapter's words for it, written down once more.
func kinds() []struct {
	name string
	call call
	told func(size int, refs []int) ([]bool, []int)
} {
	return []struct {
		name string
		call call
		told func(size int, refs []int) ([]bool, []int)
	}{
		{"Fifo", Fifo, toldBy(came, func(p dated, _ []int) int { return -p.came })},
		{"Lru", Lru, toldBy(asked, func(p dated, _ []int) int { return -p.asked })},
		{"Best", Best, toldBy(came, againIn)},
		{"Clock", Clock, toldByClock},
	}
}

// dated is a page with the times at which it came, and was asked for last.
type dated struct{ page, came, asked int }

func came(p dated) int { return p.came }

func asked(p dated) int { return p.asked }

// againIn tells when rest asks for the page again; a page that it never asks for is behind all.
func againIn(p dated, rest []int) int {
	for i, page := range rest {
		if page == p.page {
			return i
		}
	}
	return len(rest)
}

// toldBy is a pool of pages with dates: the one goes whose worth is greatest, of several the one that came first; in
// the end they stand by their dates.
func toldBy(date func(p dated) int, worth func(p dated, rest []int) int) func(int, []int) ([]bool, []int) {
	return func(size int, refs []int) (hits []bool, kept []int) {
		there := map[int]dated{}
		for now, page := range refs {
			p, hit := there[page]
			hits = append(hits, hit)
			if !hit {
				p = dated{page: page, came: now}
			}
			if !hit && len(there) == size {
				var out *dated
				for _, q := range there {
					if out == nil || worth(q, refs[now+1:]) > worth(*out, refs[now+1:]) ||
						worth(q, refs[now+1:]) == worth(*out, refs[now+1:]) && q.came < out.came {
						out = &q
					}
				}
				delete(there, out.page)
			}
			p.asked = now
			there[page] = p
		}
		var left []dated
		for _, p := range there {
			left = append(left, p)
		}
		slices.SortFunc(left, func(p, q dated) int { return date(p) - date(q) })
		for _, p := range left {
			kept = append(kept, p.page)
		}
		return hits, kept
	}
}

// toldByClock turns the places instead of a hand: the place at the hand is the first one of turned.
func toldByClock(size int, refs []int) (hits []bool, kept []int) {
	type place struct {
		at, page int
		full     bool
		mark     bool
	}
	turned := make([]place, size)
	for i := range turned {
		turned[i].at = i
	}
	turn := func() { turned = append(turned[1:], turned[0]) }
	for _, page := range refs {
		k := slices.IndexFunc(turned, func(p place) bool { return p.full && p.page == page })
		hits = append(hits, k >= 0)
		if k >= 0 {
			turned[k].mark = true
			continue
		}
		// While there is room nothing has been turned.
		if k := slices.IndexFunc(turned, func(p place) bool { return !p.full }); k >= 0 {
			turned[k] = place{k, page, true, true}
			continue
		}
		for turned[0].mark {
			turned[0].mark = false
			turn()
		}
		turned[0] = place{turned[0].at, page, true, true}
		turn()
	}
	slices.SortFunc(turned, func(p, q place) int { return p.at - q.at })
	for _, p := range turned {
		if p.full {
			kept = append(kept, p.page)
		}
	}
	return hits, kept
}

// marks shows hits as a test writes them: a point for a page that was not there, an x for a hit.
func marks(hits []bool) string {
	b := make([]byte, len(hits))
	for i, hit := range hits {
		b[i] = '.'
		if hit {
			b[i] = 'x'
		}
	}
	return string(b)
}

func want(t *testing.T, name string, c call, size int, refs []int, hits string, kept ...int) {
	t.Helper()
	h, k, err := c(size, refs)
	if marks(h) != hits || !slices.Equal(k, kept) || err != api.OK {
		t.Errorf("%s(%d, %v): %s %v %d, want %s %v", name, size, refs, marks(h), k, err, hits, kept)
	}
}

func wantTold(t *testing.T, size int, refs []int) {
	t.Helper()
	for _, kind := range kinds() {
		hits, kept := kind.told(size, refs)
		h, k, err := kind.call(size, refs)
		if !slices.Equal(h, hits) || !slices.Equal(k, kept) || err != api.OK {
			t.Fatalf("%s(%d, %.80s): %.80s %v %d, want %.80s %v",
				kind.name, size, fmt.Sprint(refs), marks(h), k, err, marks(hits), kept)
		}
	}
}

// upTo are the pages 0, 1, 2 and so on.
func upTo(n int) []int {
	l := make([]int, n)
	for i := range l {
		l[i] = i
	}
	return l
}

func TestP21Check(t *testing.T) {
	few, most, more, many := []int{1, 2}, make([]int, 2000), make([]int, 2001), make([]int, 100000)
	for _, is := range []struct {
		size int
		refs []int
		want api.Errno
	}{
		{1, nil, api.OK}, {1, []int{}, api.OK}, {1, few, api.OK}, {2, few, api.OK}, {49, few, api.OK}, {50, few, api.OK},
		{1, most, api.OK}, {50, most, api.OK}, {50, []int{math.MinInt, -1, 0, math.MaxInt}, api.OK},
		{0, nil, api.ErrArg}, {0, few, api.ErrArg}, {-1, few, api.ErrArg}, {51, few, api.ErrArg}, {51, nil, api.ErrArg},
		{math.MinInt, few, api.ErrArg}, {math.MaxInt, few, api.ErrArg}, {1<<32 + 1, few, api.ErrArg},
		{-1 << 32, few, api.ErrArg}, {256 + 1, few, api.ErrArg},
		{1, more, api.ErrLarge}, {50, more, api.ErrLarge}, {25, many, api.ErrLarge},
		// Of both faults the size is told.
		{0, more, api.ErrArg}, {51, more, api.ErrArg}, {-1, many, api.ErrArg}, {math.MaxInt, many, api.ErrArg},
	} {
		if err := Check(is.size, is.refs); err != is.want {
			t.Errorf("Check(%d, %d refs): %d, want %d", is.size, len(is.refs), err, is.want)
		}
		for _, kind := range kinds() {
			h, k, err := kind.call(is.size, is.refs)
			if err != is.want || err != api.OK && (h != nil || k != nil) {
				t.Errorf("%s(%d, %d refs): %v %v %d, want %d", kind.name, is.size, len(is.refs), h, k, err, is.want)
			}
		}
	}
}

func TestP21NothingIsAskedFor(t *testing.T) {
	for _, kind := range kinds() {
		for _, size := range []int{1, 2, 50} {
			want(t, kind.name, kind.call, size, nil, "")
			want(t, kind.name, kind.call, size, []int{}, "")
		}
	}
}

// A hit is a page that is there, whatever its number: 0 and numbers below it are pages as others are.
func TestP21AnyNumberIsAPage(t *testing.T) {
	odd := []int{0, -1, math.MinInt, math.MaxInt, 0, -1, math.MinInt, math.MaxInt}
	for _, kind := range kinds() {
		want(t, kind.name, kind.call, 50, odd, "....xxxx", 0, -1, math.MinInt, math.MaxInt)
		want(t, kind.name, kind.call, 1, []int{0, 0, -1, -1, 0}, ".x.x.", 0)
	}
	want(t, "Fifo", Fifo, 2, odd, "........", math.MinInt, math.MaxInt)
	want(t, "Best", Best, 2, odd, "....x..x", math.MaxInt, math.MinInt)
}

// With room for all none goes.
func TestP21RoomForAll(t *testing.T) {
	all := upTo(50)
	twice := append(slices.Clone(all), all...)
	for _, kind := range kinds() {
		hits, kept, err := kind.call(50, twice)
		if slices.Contains(hits[:50], true) || slices.Contains(hits[50:], false) || !slices.Equal(kept, all) || err != api.OK {
			t.Errorf("%s: %s %v %d", kind.name, marks(hits), kept, err)
		}
	}
	back := slices.Clone(all)
	slices.Reverse(back)
	for _, kind := range kinds() {
		in := all
		if kind.name == "Lru" {
			in = back
		}
		if _, kept, err := kind.call(50, append(slices.Clone(all), back...)); !slices.Equal(kept, in) || err != api.OK {
			t.Errorf("%s: %v %d, want %v", kind.name, kept, err, in)
		}
	}
}

func TestP22Fifo(t *testing.T) {
	want(t, "Fifo", Fifo, 3, []int{1, 2, 3, 1, 4, 1, 2}, "...x...", 4, 1, 2)
	want(t, "Fifo", Fifo, 2, []int{1, 2, 1, 3}, "..x.", 2, 3)
	want(t, "Fifo", Fifo, 2, []int{1, 2, 1, 1, 1, 3, 2, 1}, "..xxx.x.", 3, 1)
	want(t, "Fifo", Fifo, 1, []int{7, 7, 8, 7}, ".x..", 7)
	want(t, "Fifo", Fifo, 3, []int{5, 5, 5}, ".xx", 5)
	want(t, "Fifo", Fifo, 3, []int{3, 1, 2, 1, 3}, "...xx", 3, 1, 2)
	// With room for four it is worse than with room for three.
	refs := []int{1, 2, 3, 4, 1, 2, 5, 1, 2, 3, 4, 5}
	want(t, "Fifo", Fifo, 3, refs, ".......xx..x", 5, 3, 4)
	want(t, "Fifo", Fifo, 4, refs, "....xx......", 2, 3, 4, 5)
}

func TestP22Lru(t *testing.T) {
	want(t, "Lru", Lru, 3, []int{1, 2, 3, 1, 4, 1, 2}, "...x.x.", 4, 1, 2)
	want(t, "Lru", Lru, 2, []int{1, 2, 1, 3}, "..x.", 1, 3)
	want(t, "Lru", Lru, 2, []int{1, 2, 1, 1, 1, 3, 2, 1}, "..xxx...", 2, 1)
	want(t, "Lru", Lru, 1, []int{7, 7, 8, 7}, ".x..", 7)
	want(t, "Lru", Lru, 3, []int{3, 1, 2, 1, 3}, "...xx", 2, 1, 3)
	want(t, "Lru", Lru, 4, []int{1, 2, 3, 2}, "...x", 1, 3, 2)
	want(t, "Lru", Lru, 3, []int{1, 2, 3, 4, 1, 2, 5, 1, 2, 3, 4, 5}, ".......xx...", 3, 4, 5)
}

func TestP23Best(t *testing.T) {
	want(t, "Best", Best, 3, []int{1, 2, 3, 1, 4, 1, 2}, "...x.xx", 1, 2, 4)
	want(t, "Best", Best, 2, []int{1, 2, 3, 1, 2}, "...x.", 3, 2)
	want(t, "Best", Best, 2, []int{1, 2, 3, 2, 1}, "...x.", 3, 1)
	want(t, "Best", Best, 1, []int{7, 7, 8, 7}, ".x..", 7)
	// Of several that are not asked for again the one goes that came first, asked for since or not.
	want(t, "Best", Best, 3, []int{1, 2, 3, 4}, "....", 2, 3, 4)
	want(t, "Best", Best, 3, []int{1, 2, 3, 1, 4}, "...x.", 2, 3, 4)
	want(t, "Best", Best, 3, []int{1, 2, 3, 4, 1}, "....x", 1, 3, 4)
	want(t, "Best", Best, 3, []int{1, 2, 3, 4, 1, 5}, "....x.", 3, 4, 5)
	// Who is asked for in the very end is still ahead of who is not asked for.
	want(t, "Best", Best, 2, []int{1, 2, 3, 3, 3, 1}, "...xxx", 1, 3)
	// The first time that a page is asked for again counts, not the last one; nor how often.
	want(t, "Best", Best, 2, []int{1, 2, 3, 1, 2, 1}, "...x.x", 1, 2)
	want(t, "Best", Best, 2, []int{2, 1, 3, 2, 3, 1}, "...xx.", 3, 1)
	want(t, "Best", Best, 3, []int{1, 2, 3, 4, 1, 2, 5, 1, 2, 3, 4, 5}, "....xx.xx..x", 5, 3, 4)
}

func TestP24Clock(t *testing.T) {
	want(t, "Clock", Clock, 3, []int{1, 2, 3, 1, 4, 1, 2}, "...x...", 4, 1, 2)
	// All are marked: the hand goes round, and the first one goes.
	want(t, "Clock", Clock, 3, []int{1, 2, 3, 4}, "....", 4, 2, 3)
	// A hit behind the round marks 2 anew: 3 goes.
	want(t, "Clock", Clock, 3, []int{1, 2, 3, 4, 2, 5}, "....x.", 4, 2, 5)
	// 2 has lost its mark by that; the hand stands at 4, which is marked.
	want(t, "Clock", Clock, 3, []int{1, 2, 3, 4, 2, 5, 6}, "....x..", 4, 6, 5)
	// A page that was brought in is marked, as one that was hit is.
	want(t, "Clock", Clock, 2, []int{1, 2, 3, 2, 4, 5}, "...x..", 5, 4)
	want(t, "Clock", Clock, 1, []int{7, 7, 8, 7, 9, 9}, ".x...x", 9)
	// While there is room the hand stays, whatever is hit.
	want(t, "Clock", Clock, 3, []int{1, 1, 2, 2, 1, 3, 4, 5, 6, 7}, ".x.xx.....", 7, 5, 6)
	want(t, "Clock", Clock, 4, []int{1, 2, 1}, "..x", 1, 2)
}

// refsOf are all lists of at most most refs of so many pages.
func refsOf(pages, most int) [][]int {
	all := [][]int{nil}
	for i := 0; i < len(all); i++ {
		if len(all[i]) == most {
			break
		}
		for page := range pages {
			all = append(all, append(slices.Clone(all[i]), page-1))
		}
	}
	return all
}

func TestP22P23P24AllShortRefs(t *testing.T) {
	for _, is := range []struct{ pages, most int }{{5, 6}, {4, 7}, {3, 8}} {
		for _, refs := range refsOf(is.pages, is.most) {
			for size := 1; size <= is.pages; size++ {
				wantTold(t, size, refs)
			}
		}
	}
}

// Longer refs of few and many pages, near each other and not. The seed is fixed.
func TestP22P23P24LongRefs(t *testing.T) {
	r := rand.New(rand.NewSource(21))
	for range 1500 {
		size := 1 + r.Intn(1+r.Intn(50))
		pages := 1 + r.Intn(2*size+3)
		refs := make([]int, r.Intn(1+r.Intn(300)))
		for i := range refs {
			refs[i] = r.Intn(1+r.Intn(pages)) - pages/2
			if i > 0 && r.Intn(4) == 0 {
				refs[i] = refs[r.Intn(i)]
			}
		}
		wantTold(t, size, refs)
	}
}

// As many refs as there may be, in pools of the greatest and the least size.
func TestP22P23P24MostRefs(t *testing.T) {
	r := rand.New(rand.NewSource(22))
	round, apart, near := make([]int, 2000), make([]int, 2000), make([]int, 2000)
	for i := range 2000 {
		round[i], apart[i], near[i] = i%51, i, r.Intn(60)
	}
	for _, size := range []int{1, 2, 49, 50} {
		for _, refs := range [][]int{round, apart, near} {
			wantTold(t, size, refs)
		}
	}
}

// With the pages round and round, one more than there is room for, Fifo, Lru and Clock never hit.
func TestP22P24RoundAndRound(t *testing.T) {
	refs := slices.Repeat(upTo(51), 10)
	for _, kind := range kinds() {
		hits, _, err := kind.call(50, refs)
		if slices.Contains(hits, true) != (kind.name == "Best") || err != api.OK {
			t.Errorf("%s: %s %d", kind.name, marks(hits), err)
		}
	}
}

// No list of refs is hit more often than by Best.
func TestP23NoneIsBetter(t *testing.T) {
	for _, refs := range refsOf(4, 7) {
		for size := 1; size <= 3; size++ {
			hits, _, err := Best(size, refs)
			if n := count(hits); n != mostHits(size, refs, nil) || err != api.OK {
				t.Fatalf("Best(%d, %v): %d hits %d, want %d", size, refs, n, err, mostHits(size, refs, nil))
			}
		}
	}
}

func count(hits []bool) int {
	n := 0
	for _, hit := range hits {
		if hit {
			n++
		}
	}
	return n
}

// mostHits tries each page that may go.
func mostHits(size int, refs, there []int) int {
	if len(refs) == 0 {
		return 0
	}
	if slices.Contains(there, refs[0]) {
		return 1 + mostHits(size, refs[1:], there)
	}
	if len(there) < size {
		return mostHits(size, refs[1:], append(slices.Clone(there), refs[0]))
	}
	most := 0
	for k := range there {
		with := slices.Clone(there)
		with[k] = refs[0]
		most = max(most, mostHits(size, refs[1:], with))
	}
	return most
}

// Refs are handed in with room behind them: neither they nor the room are changed, and what is done to an answer or
// its room is not seen in them, nor in another answer.
func TestP2ListsAreApart(t *testing.T) {
	const changed = 1 << 40
	refs := []int{1, 2, 3, 1, 4, 1, 2, 5, 6, 1, 7, 3}
	for size := 1; size <= 9; size++ {
		room := append(slices.Clone(refs), -1, -2, -3, -4)
		was := slices.Clone(room)
		var hits [][]bool
		var kept [][]int
		for _, kind := range kinds() {
			for range 2 {
				h, k, _ := kind.call(size, room[:len(refs)])
				hits, kept = append(hits, h), append(kept, k)
			}
		}
		for n := range kept {
			all := kept[n][:cap(kept[n])]
			for i := range all {
				all[i] = changed
			}
			for _, other := range kept[n+1:] {
				if slices.Contains(other[:cap(other)], changed) {
					t.Fatalf("size %d: two answers share memory", size)
				}
			}
		}
		for n := range hits {
			clear(hits[n][:cap(hits[n])])
			for _, other := range hits[n+1:] {
				if size > 1 && !slices.Contains(other, true) {
					t.Fatalf("size %d: the hits of two answers share memory", size)
				}
			}
		}
		if !slices.Equal(room, was) {
			t.Fatalf("size %d: what was handed in is changed", size)
		}
	}
}

func TestP2NothingIsKept(t *testing.T) {
	refs := []int{1, 2, 3, 1, 4, 1, 2}
	for _, kind := range kinds() {
		hits, kept, _ := kind.call(3, refs)
		kind.call(2, []int{4, 1, 2, 9, 9, 1})
		kind.call(0, refs)
		kind.call(50, make([]int, 2001))
		h, k, err := kind.call(3, refs)
		if !slices.Equal(h, hits) || !slices.Equal(k, kept) || err != api.OK {
			t.Errorf("%s answers %s %v, then %s %v %d", kind.name, marks(hits), kept, marks(h), k, err)
		}
	}
}

func TestP2CallsAtOneTime(t *testing.T) {
	refs := []int{1, 2, 3, 1, 4, 1, 2, 5, 3, 1}
	var group sync.WaitGroup
	for _, kind := range kinds() {
		hits, kept := kind.told(3, refs)
		for range 2 {
			group.Go(func() {
				for range 100 {
					if h, k, err := kind.call(3, refs); !slices.Equal(h, hits) || !slices.Equal(k, kept) || err != api.OK {
						t.Errorf("%s: %s %v %d", kind.name, marks(h), k, err)
					}
				}
			})
		}
	}
	group.Wait()
}

func TestP1NoCallPanics(t *testing.T) {
	refs := append(upTo(60), upTo(60)...)
	for _, size := range []int{math.MinInt, -1 << 32, -51, -1, 0, 1, 2, 50, 51, 1000, 1 << 32, math.MaxInt} {
		for _, l := range [][]int{nil, {}, {0}, {math.MinInt}, refs, make([]int, 2000), make([]int, 2001)} {
			Check(size, l)
			for _, kind := range kinds() {
				kind.call(size, l)
			}
		}
	}
}
