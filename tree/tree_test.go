package tree

import (
	"fmt"
	"maps"
	"math"
	"math/rand"
	"slices"
	"strconv"
	"strings"
	"sync"
	"testing"
	"unsafe"

	"quirestock/api"
)

// told is what a tree must have, by a map alone.
type told map[int]string

func (m told) put(key int, text string) api.Errno {
	if _, has := m[key]; !has && len(m) >= 2000 {
		return api.ErrFull
	}
	m[key] = text
	return api.OK
}

func (m told) drop(key int) api.Errno {
	if _, has := m[key]; !has {
		return api.ErrNone
	}
	delete(m, key)
	return api.OK
}

func (m told) from(key int) []entry {
	var l []entry
	for _, k := range slices.Sorted(maps.Keys(m)) {
		if k >= key {
			l = append(l, entry{k, m[k]})
		}
	}
	return l
}

func gather(x *Tree, key int) []entry {
	var l []entry
	for k, s := range x.From(key) {
		l = append(l, entry{k, s})
	}
	return l
}

// wrongLevels tells what is wrong with Levels by P32, for a tree with so many keys; "" if nothing is.
func wrongLevels(levels [][]int, keys int) string {
	if len(levels) == 0 {
		return "no level"
	}
	wide, sum := 1, 0
	for i, row := range levels {
		if len(row) != wide {
			return fmt.Sprint("level ", i, " has ", len(row), " nodes, not ", wide)
		}
		wide = 0
		for _, k := range row {
			low := 2
			if i == 0 && len(levels) > 1 {
				low = 1
			} else if i == 0 {
				low = 0
			}
			if k < low || k > 4 {
				return fmt.Sprint("a node of level ", i, " has ", k, " keys")
			}
			wide += k + 1
			sum += k
		}
	}
	if sum != keys {
		return fmt.Sprint(sum, " keys, not ", keys)
	}
	return ""
}

// wrongNodes tells what is wrong with how the keys stand: all ends are equally far from the top, and the keys rise.
func wrongNodes(x *Tree) string {
	levels := len(x.Levels())
	var keys []int
	wrong := ""
	var walk func(n *node, level int)
	walk = func(n *node, level int) {
		if n.last() != (level == levels) {
			wrong = "an end that is not on the last level"
		}
		if !n.last() && len(n.below) != len(n.entries)+1 {
			wrong = "not one node more below than keys"
			return
		}
		for i := range len(n.entries) + 1 {
			if !n.last() {
				walk(n.below[i], level+1)
			}
			if i < len(n.entries) {
				keys = append(keys, n.entries[i].key)
			}
		}
	}
	walk(&x.top, 1)
	for i := range keys {
		if i > 0 && keys[i-1] >= keys[i] {
			wrong = "keys that do not rise"
		}
	}
	return wrong
}

// hold holds the whole tree to what is told of it.
func hold(t *testing.T, x *Tree, m told) {
	t.Helper()
	if x.Len() != len(m) {
		t.Fatal("Len", x.Len(), "want", len(m))
	}
	if w := wrongLevels(x.Levels(), len(m)); w != "" {
		t.Fatal("Levels", x.Levels(), w)
	}
	if w := wrongNodes(x); w != "" {
		t.Fatal("nodes", w)
	}
	if got, want := gather(x, math.MinInt), m.from(math.MinInt); !slices.Equal(got, want) {
		t.Fatal("From", got, "want", want)
	}
	for k, s := range m {
		if got, e := x.Get(k); got != s || e != api.OK {
			t.Fatal("Get", k, got, e, "want", s)
		}
	}
}

func put(t *testing.T, x *Tree, m told, key int, text string) {
	t.Helper()
	if got, want := x.Put(key, text), m.put(key, text); got != want {
		t.Fatal("Put", key, got, "want", want)
	}
}

func drop(t *testing.T, x *Tree, m told, key int) {
	t.Helper()
	if got, want := x.Drop(key), m.drop(key); got != want {
		t.Fatal("Drop", key, got, "want", want)
	}
}

func filled(t *testing.T, keys ...int) (*Tree, told) {
	t.Helper()
	x, m := New(), told{}
	for _, k := range keys {
		put(t, x, m, k, "t"+strconv.Itoa(k))
	}
	return x, m
}

func upTo(n int) []int {
	l := make([]int, n)
	for i := range l {
		l[i] = i
	}
	return l
}

// orders hands each order of 0 to n-1 to do.
func orders(n int, do func([]int)) {
	l := upTo(n)
	var from func(int)
	from = func(k int) {
		if k == n {
			do(l)
			return
		}
		for i := k; i < n; i++ {
			l[k], l[i] = l[i], l[k]
			from(k + 1)
			l[k], l[i] = l[i], l[k]
		}
	}
	from(0)
}

func TestP29NewHasNoKeys(t *testing.T) {
	x := New()
	if x == nil {
		t.Fatal("New is nil")
	}
	hold(t, x, told{})
	if s, e := x.Get(0); s != "" || e != api.ErrNone {
		t.Error(s, e)
	}
	if e := x.Drop(0); e != api.ErrNone {
		t.Error(e)
	}
}

func TestP29TreesAreApart(t *testing.T) {
	x, y := New(), New()
	x.Put(1, "a")
	hold(t, x, told{1: "a"})
	hold(t, y, told{})
}

func TestP29LenCountsKeys(t *testing.T) {
	x := New()
	for i, step := range []struct {
		put bool
		key int
		n   int
	}{
		{true, 5, 1}, {true, 5, 1}, {true, -5, 2}, {false, 9, 2}, {true, 9, 3},
		{false, 5, 2}, {false, 5, 2}, {false, -5, 1}, {false, 9, 0}, {false, 9, 0},
	} {
		if step.put {
			x.Put(step.key, "")
		} else {
			x.Drop(step.key)
		}
		if x.Len() != step.n {
			t.Error(i, x.Len(), "want", step.n)
		}
	}
}

func TestP30GetTellsWhatWasPutLast(t *testing.T) {
	x := New()
	for _, s := range []string{"", "a", "\x00\xff\x80", strings.Repeat("z", 100000), ""} {
		for _, k := range []int{0, 1, -1, math.MinInt, math.MaxInt, 1 << 32, -1 << 32} {
			if e := x.Put(k, s); e != api.OK {
				t.Error(k, e)
			}
			if got, e := x.Get(k); got != s || e != api.OK {
				t.Error(k, len(got), e)
			}
		}
		if x.Len() != 7 {
			t.Error(x.Len())
		}
	}
}

func TestP30GetTellsErrNone(t *testing.T) {
	x, _ := filled(t, 10, 20, 30, 40, 50, 60, 70)
	for _, k := range []int{9, 11, 0, 25, 35, 45, 71, -10, math.MinInt, math.MaxInt, 10 + 1<<32} {
		if s, e := x.Get(k); s != "" || e != api.ErrNone {
			t.Error(k, s, e)
		}
	}
}

func TestP30KeysThatAreFarApart(t *testing.T) {
	x, m := filled(t, math.MaxInt, math.MinInt, 0, -1, 1, math.MaxInt-1, math.MinInt+1, 1<<32, 1<<33, -1<<32)
	hold(t, x, m)
	for _, k := range []int{math.MinInt, math.MaxInt, 0} {
		drop(t, x, m, k)
		hold(t, x, m)
	}
}

func TestP30PutTellsErrFull(t *testing.T) {
	x, m := New(), told{}
	for i := range 2000 {
		if e := x.Put(i*3, "a"); e != api.OK {
			t.Fatal(i, e)
		}
		m[i*3] = "a"
	}
	for _, k := range []int{1, -1, 6000, 2999, math.MinInt, math.MaxInt} {
		if e := x.Put(k, "b"); e != api.ErrFull {
			t.Error(k, e)
		}
		if s, e := x.Get(k); s != "" || e != api.ErrNone {
			t.Error(k, s, e)
		}
	}
	hold(t, x, m)
	for _, k := range []int{0, 3000, 5997} {
		put(t, x, m, k, "c")
	}
	hold(t, x, m)
	drop(t, x, m, 3000)
	put(t, x, m, 1, "d")
	if e := x.Put(3000, "e"); e != api.ErrFull {
		t.Error(e)
	}
	hold(t, x, m)
}

func TestP31DropTellsErrNone(t *testing.T) {
	x, m := filled(t, 10, 20, 30, 40, 50, 60, 70)
	for _, k := range []int{9, 11, 0, 25, 45, 71, math.MinInt, math.MaxInt, 30 + 1<<32} {
		if e := x.Drop(k); e != api.ErrNone {
			t.Error(k, e)
		}
	}
	hold(t, x, m)
	drop(t, x, m, 30)
	if s, e := x.Get(30); s != "" || e != api.ErrNone {
		t.Error(s, e)
	}
	if e := x.Drop(30); e != api.ErrNone {
		t.Error(e)
	}
	hold(t, x, m)
}

func TestP31DroppedKeysMayComeAgain(t *testing.T) {
	x, m := filled(t, upTo(30)...)
	for range 3 {
		for k := range 30 {
			drop(t, x, m, k)
		}
		hold(t, x, m)
		for k := range 30 {
			put(t, x, m, k, "again")
		}
		hold(t, x, m)
	}
}

func TestP31FromTellsKeysNotBelow(t *testing.T) {
	for n := range 60 {
		x, m := New(), told{}
		for i := range n {
			put(t, x, m, i*7%61*2, strconv.Itoa(i))
		}
		for k := -1; k <= 122; k++ {
			if got, want := gather(x, k), m.from(k); !slices.Equal(got, want) {
				t.Fatal(n, k, got, want)
			}
		}
		for _, k := range []int{math.MinInt, math.MaxInt, 1 << 32, -1 << 32} {
			if got, want := gather(x, k), m.from(k); !slices.Equal(got, want) {
				t.Fatal(n, k, got, want)
			}
		}
	}
}

func TestP31FromIsLeftAtAnyPlace(t *testing.T) {
	x, _ := filled(t, upTo(50)...)
	for begin := range 50 {
		for stop := begin; stop < 50; stop++ {
			var l []int
			for k := range x.From(begin) {
				l = append(l, k)
				if k == stop {
					break
				}
			}
			if want := upTo(50)[begin : stop+1]; !slices.Equal(l, want) {
				t.Fatal(begin, stop, l)
			}
		}
	}
}

func TestP31FromIsRangedOverAgain(t *testing.T) {
	x, m := filled(t, upTo(20)...)
	f := x.From(5)
	for range 3 {
		var l []entry
		for k, s := range f {
			l = append(l, entry{k, s})
		}
		if !slices.Equal(l, m.from(5)) {
			t.Error(l)
		}
		for range f {
			break
		}
	}
	for a := range f {
		n := 0
		for b := range f {
			if b >= a {
				n++
			}
		}
		if n != 20-a {
			t.Error(a, n)
		}
	}
}

func TestP31FromTellsTheTreeAsItIsThen(t *testing.T) {
	x, m := filled(t, upTo(20)...)
	f := x.From(5)
	drop(t, x, m, 7)
	put(t, x, m, 8, "other")
	put(t, x, m, 90, "new")
	var l []entry
	for k, s := range f {
		l = append(l, entry{k, s})
	}
	if !slices.Equal(l, m.from(5)) {
		t.Error(l)
	}
}

func TestP31FromReadsTheTreeWithin(t *testing.T) {
	x, _ := filled(t, upTo(40)...)
	for k, s := range x.From(0) {
		if got, e := x.Get(k); got != s || e != api.OK || x.Len() != 40 || len(x.Levels()) < 2 {
			t.Error(k, got, e)
		}
	}
}

func TestP31ThrowingOutOfFrom(t *testing.T) {
	x, m := filled(t, upTo(40)...)
	func() {
		defer func() {
			if r := recover(); r != "out" {
				t.Error(r)
			}
		}()
		for k := range x.From(0) {
			if k == 17 {
				panic("out")
			}
		}
	}()
	hold(t, x, m)
}

func TestP32LevelsOfFewKeys(t *testing.T) {
	x := New()
	for n := range 5 {
		if l := x.Levels(); len(l) != 1 || len(l[0]) != 1 || l[0][0] != n {
			t.Error(n, l)
		}
		x.Put(n, "")
	}
	l := x.Levels()
	if len(l) != 2 || !slices.Equal(l[0], []int{1}) || !slices.Equal(l[1], []int{2, 2}) {
		t.Error(l)
	}
}

func TestP32LevelsAreFew(t *testing.T) {
	for name, key := range map[string]func(int) int{
		"rising":  func(i int) int { return i },
		"falling": func(i int) int { return -i },
		"mixed":   func(i int) int { return i * 37 % 2000 },
		"ends":    func(i int) int { return i * (i%2*2 - 1) },
	} {
		x, m := New(), told{}
		for i := range 2000 {
			put(t, x, m, key(i), "")
			if w := wrongLevels(x.Levels(), len(m)); w != "" {
				t.Fatal(name, i, w)
			}
		}
		hold(t, x, m)
		// 2 * 3^6 - 1 keys are the fewest of seven levels, 2 * 3^7 - 1 those of eight.
		if n := len(x.Levels()); n > 7 {
			t.Error(name, n)
		}
		for i := range 2000 {
			drop(t, x, m, key((i*7+3)%2000))
			if w := wrongLevels(x.Levels(), len(m)); w != "" {
				t.Fatal(name, i, w)
			}
		}
		hold(t, x, m)
	}
}

func TestP32EachOrderOfPuts(t *testing.T) {
	orders(8, func(l []int) {
		x, m := filled(t, l...)
		hold(t, x, m)
	})
}

func TestP32EachOrderOfDrops(t *testing.T) {
	orders(8, func(l []int) {
		x, m := filled(t, upTo(8)...)
		for _, k := range l {
			drop(t, x, m, k)
			if w := wrongLevels(x.Levels(), len(m)); w != "" {
				t.Fatal(l, k, w)
			}
		}
		hold(t, x, m)
	})
}

// TestP32EachKeyOfManyTrees drops each key of trees of all sizes, and so each case on each level.
func TestP32EachKeyOfManyTrees(t *testing.T) {
	for n := 1; n <= 75; n++ {
		for _, step := range []int{1, 7, 76} {
			for k := range n {
				x, m := New(), told{}
				for i := range n {
					put(t, x, m, i*step%77, "")
				}
				drop(t, x, m, k*step%77)
				hold(t, x, m)
			}
		}
	}
}

func TestP29ToP32ByChance(t *testing.T) {
	for seed := range 40 {
		r := rand.New(rand.NewSource(int64(seed)))
		x, m := New(), told{}
		span := []int{5, 12, 40, 200, 1000}[seed%5]
		for step := range 1500 {
			k := r.Intn(span) - span/2
			// Grows for a while, then shrinks.
			if r.Intn(10) < []int{7, 5, 2}[step/500] {
				put(t, x, m, k, strconv.Itoa(step))
			} else {
				drop(t, x, m, k)
			}
			if got, want := gather(x, k), m.from(k); !slices.Equal(got, want) {
				t.Fatal(seed, step, got, want)
			}
			if step%50 == 0 || span <= 12 {
				hold(t, x, m)
			}
		}
		hold(t, x, m)
	}
}

func TestP30FullByChance(t *testing.T) {
	r := rand.New(rand.NewSource(1))
	x, m := New(), told{}
	for step := range 30000 {
		k := r.Intn(2600)
		if r.Intn(10) < 8 {
			put(t, x, m, k, strconv.Itoa(step))
		} else {
			drop(t, x, m, k)
		}
		if step%3000 == 0 {
			hold(t, x, m)
		}
	}
	hold(t, x, m)
}

func overlap(a, b string) bool {
	if len(a) == 0 || len(b) == 0 {
		return false
	}
	x, y := uintptr(unsafe.Pointer(unsafe.StringData(a))), uintptr(unsafe.Pointer(unsafe.StringData(b)))
	return x < y+uintptr(len(b)) && y < x+uintptr(len(a))
}

func TestP2TextsAreKeptAsCopies(t *testing.T) {
	b := []byte("abc")
	x := New()
	x.Put(1, unsafe.String(&b[0], len(b)))
	x.Put(2, "")
	x.Put(2, unsafe.String(&b[0], len(b)))
	copy(b, "xyz")
	for k := 1; k <= 2; k++ {
		if s, _ := x.Get(k); s != "abc" {
			t.Error(k, s)
		}
	}
}

func TestP2TextsThatAreToldAreNewMemory(t *testing.T) {
	text := strings.Repeat("abc", 5)
	x := New()
	x.Put(1, text)
	a, _ := x.Get(1)
	b, _ := x.Get(1)
	c, d := gather(x, 0)[0].text, gather(x, 0)[0].text
	all := []string{text, x.top.entries[0].text, a, b, c, d}
	for i := range all {
		if all[i] != text {
			t.Error(i, all[i])
		}
		for j := range i {
			if overlap(all[i], all[j]) {
				t.Error("texts share memory", j, i)
			}
		}
	}
}

func TestP2LevelsAreApart(t *testing.T) {
	x, m := filled(t, upTo(300)...)
	want := x.Levels()
	l := x.Levels()
	for i := range l {
		row := l[i][:cap(l[i])]
		for j := range row {
			row[j] = -1 - i
		}
	}
	for i := range l {
		for _, k := range l[i] {
			if k != -1-i {
				t.Fatal("rows share memory", i)
			}
		}
	}
	if !slices.EqualFunc(x.Levels(), want, slices.Equal) {
		t.Error("a row is the tree's own memory")
	}
	hold(t, x, m)
}

func TestP2TreesAtOneTime(t *testing.T) {
	var w sync.WaitGroup
	for g := range 8 {
		w.Go(func() {
			x := New()
			for i := range 500 {
				x.Put(i*g, strconv.Itoa(i))
			}
			for i := range 250 {
				x.Drop(i * 2 * g)
			}
			n := 0
			for range x.From(0) {
				n++
			}
			if n != x.Len() || wrongLevels(x.Levels(), n) != "" {
				t.Error(g, n, x.Len())
			}
		})
	}
	w.Wait()
}

func TestP1ATreeThatNewDidNotMake(t *testing.T) {
	x := &Tree{}
	hold(t, x, told{})
	if _, e := x.Get(1); e != api.ErrNone {
		t.Error(e)
	}
	if e := x.Drop(1); e != api.ErrNone {
		t.Error(e)
	}
	m := told{}
	for k := range 20 {
		put(t, x, m, k, "a")
	}
	hold(t, x, m)
}
