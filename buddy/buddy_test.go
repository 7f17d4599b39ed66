package buddy

import (
	"math"
	"math/rand"
	"slices"
	"sync"
	"testing"

	"quirestock/api"
)

func room(order int, taken ...api.Block) api.Buddy { return api.Buddy{Order: order, Taken: taken} }

func same(b, c api.Buddy) bool { return b.Order == c.Order && slices.Equal(b.Taken, c.Taken) }

func none(b api.Buddy) bool { return b.Order == 0 && b.Taken == nil }

// places marks each of the 2^Order places that is taken; it goes by places alone, and tells whether what is Taken are
// blocks that stand in order.
func places(b api.Buddy) ([]bool, bool) {
	marked := make([]bool, 1<<b.Order)
	for _, block := range b.Taken {
		if block.Order < 0 || block.Order > b.Order {
			return nil, false
		}
		if !slices.Contains(begins(b.Order, block.Order), block.At) {
			return nil, false
		}
		// In order, and none over another: nothing is marked from its beginning on.
		if slices.Contains(marked[block.At:], true) {
			return nil, false
		}
		for i := range 1 << block.Order {
			marked[block.At+i] = true
		}
	}
	return marked, true
}

// begins are the places where a block of order k may begin, found by counting.
func begins(order, k int) []int {
	var l []int
	for at := 0; at < 1<<order; at += 1 << k {
		l = append(l, at)
	}
	return l
}

// toldFree takes the greatest blocks first, wherever all of a block's places are free and none of them is told yet.
func toldFree(b api.Buddy) []api.Block {
	marked, _ := places(b)
	var free []api.Block
	for k := b.Order; k >= 0; k-- {
		for _, at := range begins(b.Order, k) {
			of := marked[at : at+1<<k]
			if !slices.Contains(of, true) {
				free = append(free, api.Block{At: at, Order: k})
				for i := range of {
					of[i] = true
				}
			}
		}
	}
	return byAt(free)
}

func byAt(l []api.Block) []api.Block {
	slices.SortFunc(l, func(a, b api.Block) int { return a.At - b.At })
	return l
}

func toldTake(b api.Buddy, order int) (api.Buddy, int, api.Errno) {
	if order < 0 || order > b.Order {
		return api.Buddy{}, 0, api.ErrArg
	}
	for k := order; k <= b.Order; k++ {
		for _, block := range toldFree(b) {
			if block.Order == k {
				taken := append(slices.Clone(b.Taken), api.Block{At: block.At, Order: order})
				return room(b.Order, byAt(taken)...), block.At, api.OK
			}
		}
	}
	return api.Buddy{}, 0, api.ErrFull
}

func toldDrop(b api.Buddy, at int) (api.Buddy, api.Errno) {
	var left []api.Block
	for _, block := range b.Taken {
		if block.At != at {
			left = append(left, block)
		}
	}
	if len(left) == len(b.Taken) {
		return api.Buddy{}, api.ErrNone
	}
	return room(b.Order, left...), api.OK
}

// allTaken are all lists of blocks that may be taken within the block of this order at a place.
func allTaken(at, order int) [][]api.Block {
	all := [][]api.Block{nil, {{At: at, Order: order}}}
	if order == 0 {
		return all
	}
	all = all[1:]
	half := 1 << (order - 1)
	for _, low := range allTaken(at, order-1) {
		for _, high := range allTaken(at+half, order-1) {
			all = append(all, append(slices.Clone(low), high...))
		}
	}
	return all
}

// anyRoom takes and leaves halves of halves by chance.
func anyRoom(r *rand.Rand, order int) api.Buddy {
	keep, split := r.Intn(100), 40+r.Intn(60)
	var taken []api.Block
	var halve func(at, k int)
	halve = func(at, k int) {
		if k > 0 && r.Intn(100) < split {
			halve(at, k-1)
			halve(at+1<<(k-1), k-1)
		} else if r.Intn(100) < keep {
			taken = append(taken, api.Block{At: at, Order: k})
		}
	}
	halve(0, order)
	return room(order, taken...)
}

func wantTold(t *testing.T, b api.Buddy) {
	t.Helper()
	if err := Check(b); err != api.OK {
		t.Fatalf("Check(%v): %d", b, err)
	}
	free, err := Free(b)
	if told := toldFree(b); !slices.Equal(free, told) || err != api.OK {
		t.Fatalf("Free(%v): %v %d, want %v", b, free, err, told)
	}
	for order := -1; order <= b.Order+1; order++ {
		got, at, err := Take(b, order)
		told, toldAt, toldErr := toldTake(b, order)
		if !same(got, told) || at != toldAt || err != toldErr {
			t.Fatalf("Take(%v, %d): %v %d %d, want %v %d %d", b, order, got, at, err, told, toldAt, toldErr)
		}
	}
	for at := -1; at <= 1<<b.Order; at++ {
		got, err := Drop(b, at)
		told, toldErr := toldDrop(b, at)
		if !same(got, told) || err != toldErr {
			t.Fatalf("Drop(%v, %d): %v %d, want %v %d", b, at, got, err, told, toldErr)
		}
	}
}

// wantRefused holds all calls to Check's error, whatever else is wrong.
func wantRefused(t *testing.T, b api.Buddy, want api.Errno) {
	t.Helper()
	if err := Check(b); err != want {
		t.Errorf("Check(%v): %d, want %d", b, err, want)
	}
	if free, err := Free(b); free != nil || err != want {
		t.Errorf("Free(%v): %v %d, want %d", b, free, err, want)
	}
	for _, n := range []int{math.MinInt, -1, 0, 1, b.Order, 11, math.MaxInt} {
		if got, at, err := Take(b, n); !none(got) || at != 0 || err != want {
			t.Errorf("Take(%v, %d): %v %d %d, want %d", b, n, got, at, err, want)
		}
		if got, err := Drop(b, n); !none(got) || err != want {
			t.Errorf("Drop(%v, %d): %v %d, want %d", b, n, got, err, want)
		}
	}
}

func TestP25OrderOutOfBounds(t *testing.T) {
	for _, order := range []int{math.MinInt, -1 << 32, -64, -1, 11, 62, 63, 64, 65, 1 << 32, math.MaxInt} {
		wantRefused(t, room(order), api.ErrArg)
		wantRefused(t, room(order, api.Block{}), api.ErrArg)
		// The order is told ahead of what is wrong in what is taken.
		wantRefused(t, room(order, api.Block{At: -1, Order: -1}), api.ErrArg)
		wantRefused(t, room(order, api.Block{At: 1, Order: 1}, api.Block{}), api.ErrArg)
	}
	for order := range 11 {
		if err := Check(room(order)); err != api.OK {
			t.Errorf("Check of order %d: %d", order, err)
		}
		if err := Check(api.Buddy{Order: order, Taken: []api.Block{}}); err != api.OK {
			t.Errorf("Check of order %d and an empty list: %d", order, err)
		}
	}
}

func TestP25WhatIsTaken(t *testing.T) {
	for _, l := range [][]api.Block{
		// Places that its size does not divide.
		{{At: 1, Order: 1}}, {{At: 2, Order: 2}}, {{At: 6, Order: 2}}, {{At: 4, Order: 3}}, {{At: 3, Order: 1}},
		// Orders out of bounds.
		{{At: 0, Order: -1}}, {{At: 0, Order: 4}}, {{At: 0, Order: 10}}, {{At: 0, Order: 63}}, {{At: 0, Order: 64}},
		{{At: 0, Order: math.MinInt}}, {{At: 0, Order: math.MaxInt}}, {{At: 0, Order: -1 << 32}}, {{At: 0, Order: 1 << 32}},
		// Not within the places.
		{{At: 8}}, {{At: 8, Order: 3}}, {{At: -1}}, {{At: -2, Order: 1}}, {{At: -8, Order: 3}}, {{At: 1 << 32}},
		{{At: math.MaxInt}}, {{At: math.MaxInt - 7, Order: 3}}, {{At: math.MinInt}}, {{At: math.MinInt, Order: 3}},
		// One over another, the same one twice, and not in order.
		{{At: 0}, {At: 0}}, {{At: 0, Order: 1}, {At: 1}}, {{At: 0, Order: 3}, {At: 7}}, {{At: 4}, {At: 4, Order: 2}},
		{{At: 2}, {At: 0}}, {{At: 4, Order: 2}, {At: 0, Order: 2}}, {{At: 0}, {At: 2}, {At: 1}}, {{At: 1}, {At: 0, Order: 1}},
		// Good ones do not make up for a bad one.
		{{At: 0}, {At: 1}, {At: 2, Order: 2}}, {{At: 0}, {At: 8}}, {{At: -1}, {At: 0}}, {{At: 1, Order: 1}, {At: 4}},
		{{At: math.MaxInt}, {At: 0}}, {{At: 0, Order: 3}, {At: 8}}, {{At: 0, Order: 3}, {At: math.MinInt}},
	} {
		wantRefused(t, room(3, l...), api.ErrForm)
	}
	wantRefused(t, room(0, api.Block{At: 1}), api.ErrForm)
	wantRefused(t, room(0, api.Block{Order: 1}), api.ErrForm)
	wantRefused(t, room(10, api.Block{At: 1024}), api.ErrForm)
	wantRefused(t, room(10, api.Block{Order: 11}), api.ErrForm)
	wantRefused(t, room(10, make([]api.Block, 100000)...), api.ErrForm)
	for _, l := range [][]api.Block{
		{{At: 0}}, {{At: 7}}, {{At: 6, Order: 1}}, {{At: 4, Order: 2}}, {{At: 0, Order: 3}},
		{{At: 0}, {At: 1}, {At: 2, Order: 1}, {At: 4, Order: 2}}, {{At: 0, Order: 2}, {At: 4}, {At: 7}},
	} {
		if err := Check(room(3, l...)); err != api.OK {
			t.Errorf("Check(%v): %d", l, err)
		}
	}
}

// All lists of at most three blocks, right and wrong, in and about small rooms.
func TestP25AllShortLists(t *testing.T) {
	for order := range 4 {
		var blocks []api.Block
		for at := -1; at <= 1<<order; at++ {
			for k := -1; k <= order+1; k++ {
				blocks = append(blocks, api.Block{At: at, Order: k})
			}
		}
		lists := [][]api.Block{nil}
		for i := 0; i < len(lists) && len(lists[i]) < 3; i++ {
			for _, block := range blocks {
				lists = append(lists, append(slices.Clone(lists[i]), block))
			}
		}
		for _, l := range lists {
			want := api.ErrForm
			if _, ok := places(room(order, l...)); ok {
				want = api.OK
			}
			if err := Check(room(order, l...)); err != want {
				t.Fatalf("Check(%d, %v): %d, want %d", order, l, err, want)
			}
		}
	}
}

func TestP26Free(t *testing.T) {
	for _, is := range []struct {
		b    api.Buddy
		want []api.Block
	}{
		{room(2, api.Block{At: 1}), []api.Block{{At: 0}, {At: 2, Order: 1}}},
		{room(0), []api.Block{{}}},
		{room(0, api.Block{}), nil},
		{room(10), []api.Block{{Order: 10}}},
		{room(10, api.Block{Order: 10}), nil},
		// Free places side by side that are no halves of one block stay two blocks.
		{room(2, api.Block{At: 0}, api.Block{At: 3}), []api.Block{{At: 1}, {At: 2}}},
		{room(3, api.Block{At: 0}), []api.Block{{At: 1}, {At: 2, Order: 1}, {At: 4, Order: 2}}},
		{room(3, api.Block{At: 7}), []api.Block{{At: 0, Order: 2}, {At: 4, Order: 1}, {At: 6}}},
		{room(3, api.Block{At: 0}, api.Block{At: 7}), []api.Block{{At: 1}, {At: 2, Order: 1}, {At: 4, Order: 1}, {At: 6}}},
		{room(3, api.Block{At: 2, Order: 1}), []api.Block{{At: 0, Order: 1}, {At: 4, Order: 2}}},
		{room(3, api.Block{At: 4, Order: 2}), []api.Block{{At: 0, Order: 2}}},
		{room(3, api.Block{At: 0, Order: 2}, api.Block{At: 4, Order: 2}), nil},
	} {
		if free, err := Free(is.b); !slices.Equal(free, is.want) || err != api.OK {
			t.Errorf("Free(%v): %v %d, want %v", is.b, free, err, is.want)
		}
	}
}

// As many blocks as there may be: each second place is taken.
func TestP26MostBlocks(t *testing.T) {
	var taken, want []api.Block
	for at := 0; at < 1024; at += 2 {
		want, taken = append(want, api.Block{At: at}), append(taken, api.Block{At: at + 1})
	}
	if free, err := Free(room(10, taken...)); !slices.Equal(free, want) || err != api.OK {
		t.Errorf("%v %d", free, err)
	}
}

func TestP27Take(t *testing.T) {
	for _, is := range []struct {
		b     api.Buddy
		order int
		want  api.Buddy
		at    int
		err   api.Errno
	}{
		{room(0), 0, room(0, api.Block{}), 0, api.OK},
		{room(10), 10, room(10, api.Block{Order: 10}), 0, api.OK},
		{room(10), 0, room(10, api.Block{}), 0, api.OK},
		// The least block that is great enough, though a greater one is ahead of it.
		{room(3, api.Block{At: 4}), 0, room(3, api.Block{At: 4}, api.Block{At: 5}), 5, api.OK},
		{room(3, api.Block{At: 4}), 1, room(3, api.Block{At: 4}, api.Block{At: 6, Order: 1}), 6, api.OK},
		{room(3, api.Block{At: 4}), 2, room(3, api.Block{Order: 2}, api.Block{At: 4}), 0, api.OK},
		// A greater one, where there is none of just that order; the block is at its beginning.
		{room(3, api.Block{At: 2, Order: 1}), 0, room(3, api.Block{}, api.Block{At: 2, Order: 1}), 0, api.OK},
		{room(3, api.Block{Order: 2}), 0, room(3, api.Block{Order: 2}, api.Block{At: 4}), 4, api.OK},
		{room(3, api.Block{Order: 2}), 1, room(3, api.Block{Order: 2}, api.Block{At: 4, Order: 1}), 4, api.OK},
		// Of several the first one.
		{room(2, api.Block{At: 0}, api.Block{At: 3}), 0, room(2, api.Block{At: 0}, api.Block{At: 1}, api.Block{At: 3}), 1, api.OK},
		// Free places enough, but no block.
		{room(2, api.Block{At: 0}, api.Block{At: 3}), 1, api.Buddy{}, 0, api.ErrFull},
		{room(3, api.Block{At: 3}), 3, api.Buddy{}, 0, api.ErrFull},
		{room(0, api.Block{}), 0, api.Buddy{}, 0, api.ErrFull},
		{room(10, api.Block{Order: 10}), 0, api.Buddy{}, 0, api.ErrFull},
		// The order is looked at ahead of the room.
		{room(0, api.Block{}), 1, api.Buddy{}, 0, api.ErrArg},
		{room(0, api.Block{}), -1, api.Buddy{}, 0, api.ErrArg},
		{room(3), 4, api.Buddy{}, 0, api.ErrArg},
		{room(3), 10, api.Buddy{}, 0, api.ErrArg},
		{room(10), 11, api.Buddy{}, 0, api.ErrArg},
		{room(3), math.MinInt, api.Buddy{}, 0, api.ErrArg},
		{room(3), math.MaxInt, api.Buddy{}, 0, api.ErrArg},
		{room(3), 1 << 32, api.Buddy{}, 0, api.ErrArg},
	} {
		got, at, err := Take(is.b, is.order)
		if !same(got, is.want) || at != is.at || err != is.err {
			t.Errorf("Take(%v, %d): %v %d %d, want %v %d %d", is.b, is.order, got, at, err, is.want, is.at, is.err)
		}
	}
}

// Place by place till all is taken, and then one by one till none is: the room is whole again.
func TestP27P28AllAndNone(t *testing.T) {
	b := room(10)
	for i := range 1024 {
		next, at, err := Take(b, 0)
		if at != i || err != api.OK {
			t.Fatalf("Take %d: %d %d", i, at, err)
		}
		b = next
	}
	if _, _, err := Take(b, 0); err != api.ErrFull {
		t.Errorf("Take of a full room: %d", err)
	}
	for i := range 1024 {
		next, err := Drop(b, (i*37)%1024)
		if err != api.OK || len(next.Taken) != 1023-i {
			t.Fatalf("Drop %d: %d", i, err)
		}
		b = next
	}
	if free, err := Free(b); !slices.Equal(free, []api.Block{{Order: 10}}) || err != api.OK {
		t.Errorf("Free: %v %d", free, err)
	}
}

func TestP28Drop(t *testing.T) {
	b := room(3, api.Block{At: 0}, api.Block{At: 2, Order: 1}, api.Block{At: 4, Order: 2})
	for _, is := range []struct {
		at   int
		want api.Buddy
		err  api.Errno
	}{
		{0, room(3, b.Taken[1], b.Taken[2]), api.OK},
		{2, room(3, b.Taken[0], b.Taken[2]), api.OK},
		{4, room(3, b.Taken[0], b.Taken[1]), api.OK},
		// A place that is free, places within a block, and none.
		{1, api.Buddy{}, api.ErrNone}, {3, api.Buddy{}, api.ErrNone}, {7, api.Buddy{}, api.ErrNone},
		{8, api.Buddy{}, api.ErrNone}, {-1, api.Buddy{}, api.ErrNone}, {1 << 32, api.Buddy{}, api.ErrNone},
		{math.MinInt, api.Buddy{}, api.ErrNone}, {math.MaxInt, api.Buddy{}, api.ErrNone},
	} {
		if got, err := Drop(b, is.at); !same(got, is.want) || err != is.err {
			t.Errorf("Drop(%d): %v %d, want %v %d", is.at, got, err, is.want, is.err)
		}
	}
	if got, err := Drop(room(10), 0); !none(got) || err != api.ErrNone {
		t.Errorf("Drop of nothing: %v %d", got, err)
	}
	if got, err := Drop(room(10, api.Block{Order: 10}), 0); !same(got, room(10)) || err != api.OK {
		t.Errorf("Drop of all: %v %d", got, err)
	}
}

func TestP25P26P27P28AllSmallRooms(t *testing.T) {
	for order := range 4 {
		for _, taken := range allTaken(0, order) {
			wantTold(t, room(order, taken...))
		}
	}
}

// Greater rooms. The seed is fixed.
func TestP25P26P27P28GreaterRooms(t *testing.T) {
	r := rand.New(rand.NewSource(25))
	for range 300 {
		wantTold(t, anyRoom(r, 4+r.Intn(5)))
	}
	for range 20 {
		wantTold(t, anyRoom(r, 10))
	}
}

// Long ways of Take and Drop, by chance. The seed is fixed.
func TestP27P28LongWays(t *testing.T) {
	r := rand.New(rand.NewSource(27))
	for range 20 {
		b := room(r.Intn(8))
		for range 100 {
			if k := len(b.Taken); k > 0 && r.Intn(3) == 0 {
				b, _ = Drop(b, b.Taken[r.Intn(k)].At)
			} else if next, _, err := Take(b, r.Intn(1+b.Order)); err == api.OK {
				b = next
			}
			wantTold(t, b)
		}
	}
}

// What is taken is handed in with room behind it: neither it nor the room is changed, and what is done to an answer or
// its room is not seen in it, nor in another answer.
func TestP2ListsAreApart(t *testing.T) {
	changed := api.Block{At: 1 << 40, Order: 1 << 40}
	taken := []api.Block{{At: 1}, {At: 2, Order: 1}, {At: 8, Order: 2}, {At: 15}}
	for n := range len(taken) + 1 {
		long := append(slices.Clone(taken), api.Block{At: -1}, api.Block{At: -2}, api.Block{At: -3})
		was := slices.Clone(long)
		b := room(4, long[:n]...)
		var lists [][]api.Block
		for range 2 {
			free, _ := Free(b)
			lists = append(lists, free)
			for order := range 5 {
				got, _, _ := Take(b, order)
				lists = append(lists, got.Taken)
			}
			for at := range 16 {
				got, _ := Drop(b, at)
				lists = append(lists, got.Taken)
			}
		}
		for i, l := range lists {
			all := l[:cap(l)]
			for k := range all {
				all[k] = changed
			}
			for _, other := range lists[i+1:] {
				if slices.Contains(other[:cap(other)], changed) {
					t.Fatalf("%d taken: two answers share memory", n)
				}
			}
		}
		if !slices.Equal(long, was) {
			t.Fatalf("%d taken: what was handed in is changed", n)
		}
	}
}

func TestP2NothingIsKept(t *testing.T) {
	b := room(3, api.Block{At: 1})
	wantTold(t, b)
	for _, other := range []api.Buddy{room(10), room(-1), room(3, api.Block{At: 8}), room(3, api.Block{Order: 3})} {
		Check(other)
		Free(other)
		Take(other, 1)
		Drop(other, 0)
		wantTold(t, b)
	}
}

func TestP2CallsAtOneTime(t *testing.T) {
	b := anyRoom(rand.New(rand.NewSource(2)), 5)
	free, full := toldFree(b), room(5, api.Block{Order: 5})
	var group sync.WaitGroup
	for range 8 {
		group.Go(func() {
			for range 100 {
				if l, err := Free(b); !slices.Equal(l, free) || err != api.OK {
					t.Errorf("Free(%v): %v %d", b, l, err)
				}
				if _, _, err := Take(full, 0); err != api.ErrFull {
					t.Errorf("Take of a full room: %d", err)
				}
			}
		})
	}
	group.Wait()
}

func TestP1NoCallPanics(t *testing.T) {
	odd := []int{math.MinInt, -1 << 32, -64, -1, 0, 1, 2, 10, 11, 62, 63, 64, 1023, 1024, 1 << 32, math.MaxInt}
	for _, order := range odd {
		for _, at := range odd {
			for _, k := range odd {
				b := room(order, api.Block{At: at, Order: k})
				Check(b)
				Free(b)
				Take(b, at)
				Drop(b, k)
				b.Taken = append(b.Taken, api.Block{At: k, Order: at})
				Check(b)
				Free(b)
				Take(b, k)
				Drop(b, at)
			}
		}
	}
}
