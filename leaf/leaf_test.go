package leaf

import (
	"encoding/binary"
	"fmt"
	"math"
	"math/rand"
	"slices"
	"strings"
	"sync"
	"testing"
	"unsafe"

	"quirestock/api"
)

// used is a slot with that text.
func used(text string) api.Slot { return api.Slot{Used: true, Text: text} }

// unused is a slot without anything.
var unused = api.Slot{}

func page(slots ...api.Slot) api.Leaf { return api.Leaf{Slots: slots} }

// many are n slots, each with that text.
func many(n int, text string) []api.Slot { return slices.Repeat([]api.Slot{used(text)}, n) }

// fill is a text of n bytes of all kinds.
func fill(n int) string {
	b := make([]byte, n)
	for i := range b {
		b[i] = byte(251*i + 128)
	}
	return string(b)
}

// show is a page as a test tells it.
func show(p api.Leaf) string { return fmt.Sprintf("%d slots %.40q", len(p.Slots), bytesOf(p)) }

func same(p, q api.Leaf) bool { return slices.Equal(p.Slots, q.Slots) }

// bytesOf makes a page's bytes as the chapter's words have them, by the library's own numbers.
func bytesOf(p api.Leaf) string {
	b := binary.AppendUvarint(nil, uint64(len(p.Slots)))
	for _, s := range p.Slots {
		if s.Used {
			b = binary.AppendUvarint(b, uint64(len(s.Text)+1))
			b = append(b, s.Text...)
		} else {
			b = append(b, 0)
		}
	}
	return string(b)
}

// rightPages are pages without a fault, those at the edges among them.
func rightPages() []api.Leaf {
	return []api.Leaf{
		{}, page([]api.Slot{}...), page(used("")), page(used("a")), page(used("\x00")), page(used("a"), used(""), used("ccc")),
		page(unused, used("")), page(unused, unused, used("b")), page(used("a"), unused, used("\xff\x00")),
		page(used(fill(126))), page(used(fill(127))), page(used(fill(128))), page(used(fill(509))),
		page(used(fill(127)), used(fill(127)), used(fill(127)), used(fill(123))),
		page(many(40, "")...), page(many(40, "abc")...), page(append(many(39, fill(11)), used(fill(42)))...),
		page(append(slices.Repeat([]api.Slot{unused}, 39), used(""))...),
		page(append(slices.Repeat([]api.Slot{unused}, 39), used(fill(470)))...),
	}
}

// wrongPages are pages with faults, several of them with more than one.
func wrongPages() []struct {
	what string
	p    api.Leaf
	err  api.Errno
} {
	long := fill(510)
	return []struct {
		what string
		p    api.Leaf
		err  api.Errno
	}{
		{"41 slots", page(many(41, "")...), api.ErrLarge},
		{"1000 slots", page(many(1000, "a")...), api.ErrLarge},
		{"41 slots, the first one of no form", page(append([]api.Slot{{Text: "a"}}, many(40, "")...)...), api.ErrLarge},
		{"41 slots, the last one not Used", page(append(many(40, ""), unused)...), api.ErrLarge},
		{"41 slots, all not Used", page(make([]api.Slot, 41)...), api.ErrLarge},
		{"41 slots, too many bytes", page(many(41, long)...), api.ErrLarge},
		{"a text of a slot that is not Used", page(api.Slot{Text: "a"}, used("b")), api.ErrForm},
		{"a byte 0 in a slot that is not Used", page(used("b"), api.Slot{Text: "\x00"}, used("b")), api.ErrForm},
		{"a text of the last slot, not Used", page(used("b"), api.Slot{Text: "a"}), api.ErrForm},
		{"a slot of no form, too many bytes", page(used(long), api.Slot{Text: "a"}, used("")), api.ErrForm},
		{"a long text of a slot that is not Used", page(api.Slot{Text: long}, used("")), api.ErrForm},
		{"no slot Used", page(unused), api.ErrForm},
		{"no slot of 40 Used", page(make([]api.Slot, 40)...), api.ErrForm},
		{"the last slot not Used", page(used("a"), unused), api.ErrForm},
		{"the last slots not Used", page(used("a"), unused, unused), api.ErrForm},
		{"the last slot not Used, too many bytes", page(used(long), unused), api.ErrForm},
		{"513 bytes in one slot", page(used(long)), api.ErrFull},
		{"513 bytes in 40 slots", page(append(many(39, fill(11)), used(fill(43)))...), api.ErrFull},
		{"513 bytes by slots that are not Used", page(unused, unused, used(fill(508))), api.ErrFull},
		{"513 bytes by long counts", page(used(fill(127)), used(fill(127)), used(fill(127)), used(fill(124))), api.ErrFull},
		{"a million bytes", page(used(fill(1 << 20))), api.ErrFull},
		{"40 million bytes", page(many(40, fill(1<<20))...), api.ErrFull},
	}
}

func TestP17RightPages(t *testing.T) {
	for i, p := range rightPages() {
		if err := Check(p); err != api.OK {
			t.Errorf("page %d: %d", i, err)
		}
	}
}

func TestP17WrongPages(t *testing.T) {
	for _, is := range wrongPages() {
		if err := Check(is.p); err != is.err {
			t.Errorf("%s: %d, want %d", is.what, err, is.err)
		}
		if n := len(bytesOf(is.p)); strings.HasPrefix(is.what, "513") && n != 513 {
			t.Errorf("%s: they are %d", is.what, n)
		}
	}
}

// One slot's text grows byte by byte past the page's end, behind other slots of any kind.
func TestP17EachSize(t *testing.T) {
	for _, front := range [][]api.Slot{nil, {unused}, {used("")}, {used(fill(126)), unused}, {used(fill(127))}, {used(fill(300)), used("a")}} {
		for n := range 600 {
			p := page(append(slices.Clone(front), used(fill(n)))...)
			want := api.OK
			if len(bytesOf(p)) > 512 {
				want = api.ErrFull
			}
			if err := Check(p); err != want {
				t.Errorf("%d bytes: %d, want %d", len(bytesOf(p)), err, want)
			}
		}
	}
}

// Each call tells Check's error first, whatever else is asked of it, and nothing beside it.
func TestP17EachCallTellsChecksError(t *testing.T) {
	for _, is := range wrongPages() {
		if n, err := Free(is.p); n != 0 || err != is.err {
			t.Errorf("Free of %s: %d %d, want %d", is.what, n, err, is.err)
		}
		for _, text := range []string{"", "a", fill(600)} {
			if p, k, err := Put(is.p, text); p.Slots != nil || k != 0 || err != is.err {
				t.Errorf("Put of %s: %s %d %d, want %d", is.what, show(p), k, err, is.err)
			}
		}
		for _, k := range []int{-1, 0, 1, 39, 40, 1000} {
			if s, err := Get(is.p, k); s != "" || err != is.err {
				t.Errorf("Get of %s: %q %d, want %d", is.what, s, err, is.err)
			}
			if p, err := Drop(is.p, k); p.Slots != nil || err != is.err {
				t.Errorf("Drop of %s: %s %d, want %d", is.what, show(p), err, is.err)
			}
		}
		if s, err := Text(is.p); s != "" || err != is.err {
			t.Errorf("Text of %s: %q %d, want %d", is.what, s, err, is.err)
		}
	}
}

func TestP18Free(t *testing.T) {
	for _, is := range []struct {
		p    api.Leaf
		want int
	}{
		{page(), 511}, {page(used("")), 510}, {page(used("a")), 509}, {page(unused, used("")), 509},
		{page(used(fill(126))), 384}, {page(used(fill(127))), 382}, {page(used(fill(508))), 1}, {page(used(fill(509))), 0},
		{page(many(40, "")...), 471}, {page(append(many(39, fill(11)), used(fill(42)))...), 0},
	} {
		if n, err := Free(is.p); n != is.want || err != api.OK {
			t.Errorf("Free of %d slots: %d %d, want %d", len(is.p.Slots), n, err, is.want)
		}
	}
	for i, p := range rightPages() {
		if n, err := Free(p); n != 512-len(bytesOf(p)) || err != api.OK {
			t.Errorf("Free of page %d: %d %d", i, n, err)
		}
	}
}

func wantPut(t *testing.T, p api.Leaf, text string, want api.Leaf, wantK int) {
	t.Helper()
	q, k, err := Put(p, text)
	if !same(q, want) || k != wantK || err != api.OK {
		t.Errorf("Put of %d bytes: %s %d %d, want %s %d", len(text), show(q), k, err, show(want), wantK)
	}
}

func wantNoPut(t *testing.T, p api.Leaf, text string) {
	t.Helper()
	if q, k, err := Put(p, text); q.Slots != nil || k != 0 || err != api.ErrFull {
		t.Errorf("Put of %d bytes: %s %d %d, want ErrFull", len(text), show(q), k, err)
	}
}

func TestP18Put(t *testing.T) {
	wantPut(t, page(), "a", page(used("a")), 0)
	wantPut(t, page(), "", page(used("")), 0)
	wantPut(t, page(used("")), "\x00", page(used(""), used("\x00")), 1)
	wantPut(t, page(unused, used("b")), "a", page(used("a"), used("b")), 0)
	wantPut(t, page(unused, used("b")), "", page(used(""), used("b")), 0)
	wantPut(t, page(used("a"), unused, unused, used("d")), "b", page(used("a"), used("b"), unused, used("d")), 1)
	wantPut(t, page(used("a"), used(""), unused, used("d")), "c", page(used("a"), used(""), used("c"), used("d")), 2)
}

func TestP18PutOfTooManyBytes(t *testing.T) {
	wantPut(t, page(), fill(509), page(used(fill(509))), 0)
	for _, n := range []int{510, 511, 512, 513, 4096, 1 << 20} {
		wantNoPut(t, page(), fill(n))
	}
	// A new slot needs a byte even for an empty text.
	full := page(used(fill(509)))
	wantNoPut(t, full, "")
	wantNoPut(t, full, "a")
	almost := page(used(fill(508)))
	wantPut(t, almost, "", page(used(fill(508)), used("")), 1)
	wantNoPut(t, almost, "a")
	// A slot that is not Used has that byte already.
	hole := page(unused, used(fill(508)))
	wantPut(t, hole, "", page(used(""), used(fill(508))), 0)
	wantNoPut(t, hole, "a")
	// At 127 bytes the count has a byte more: 128 bytes free are too few for it, 129 are just enough.
	few, enough := page(used(fill(381))), page(used(fill(380)))
	wantPut(t, few, fill(126), page(used(fill(381)), used(fill(126))), 1)
	wantNoPut(t, few, fill(127))
	wantPut(t, enough, fill(127), page(used(fill(380)), used(fill(127))), 1)
	wantNoPut(t, enough, fill(128))
}

func TestP18PutOfTooManySlots(t *testing.T) {
	wantPut(t, page(many(39, "")...), "a", page(append(many(39, ""), used("a"))...), 39)
	wantNoPut(t, page(many(40, "")...), "a")
	wantNoPut(t, page(many(40, "")...), "")
	wantNoPut(t, page(many(40, "")...), fill(600))
	for k := range 39 {
		slots := many(40, "b")
		slots[k] = unused
		with := many(40, "b")
		with[k] = used("a")
		wantPut(t, page(slots...), "a", page(with...), k)
	}
}

// Every text that fits, into every page at the edges, and the first that does not.
func TestP18PutUpToTheEnd(t *testing.T) {
	for i, p := range rightPages() {
		k := slices.Index(p.Slots, unused)
		if k < 0 {
			k = len(p.Slots)
		}
		for n := range 520 {
			slots := slices.Clone(p.Slots)
			if k == len(slots) {
				slots = append(slots, unused)
			}
			slots[k] = used(fill(n))
			q, at, err := Put(p, fill(n))
			if len(slots) > 40 || len(bytesOf(page(slots...))) > 512 {
				if q.Slots != nil || at != 0 || err != api.ErrFull {
					t.Fatalf("Put of %d bytes into page %d: %d %d, want ErrFull", n, i, at, err)
				}
				continue
			}
			if !same(q, page(slots...)) || at != k || err != api.OK {
				t.Fatalf("Put of %d bytes into page %d: %d %d", n, i, at, err)
			}
		}
	}
}

func TestP19Get(t *testing.T) {
	for i, p := range rightPages() {
		for k := -3; k < 45; k++ {
			s, err := Get(p, k)
			if k < 0 || k >= len(p.Slots) || !p.Slots[k].Used {
				if s != "" || err != api.ErrNone {
					t.Errorf("Get of page %d, slot %d: %q %d, want ErrNone", i, k, s, err)
				}
			} else if s != p.Slots[k].Text || err != api.OK {
				t.Errorf("Get of page %d, slot %d: %q %d", i, k, s, err)
			}
		}
		for _, k := range []int{math.MinInt, math.MaxInt, 1 << 32, -1 << 32} {
			if s, err := Get(p, k); s != "" || err != api.ErrNone {
				t.Errorf("Get of page %d, slot %d: %q %d, want ErrNone", i, k, s, err)
			}
		}
	}
}

func TestP19Drop(t *testing.T) {
	for _, is := range []struct {
		p    api.Leaf
		k    int
		want api.Leaf
	}{
		{page(used("a")), 0, page()},
		{page(used("")), 0, page()},
		{page(used("a"), used("b")), 0, page(unused, used("b"))},
		{page(used("a"), used("b")), 1, page(used("a"))},
		{page(used("a"), used(""), used("c")), 1, page(used("a"), unused, used("c"))},
		{page(used("a"), unused, used("c")), 2, page(used("a"))},
		{page(used("a"), unused, unused, used("c")), 3, page(used("a"))},
		{page(used("a"), unused, unused, used("c")), 0, page(unused, unused, unused, used("c"))},
		{page(unused, unused, used("c")), 2, page()},
		{page(used(""), unused, used("c")), 2, page(used(""))},
		{page(many(40, "a")...), 39, page(many(39, "a")...)},
		{page(append(slices.Repeat([]api.Slot{unused}, 39), used("z"))...), 39, page()},
	} {
		q, err := Drop(is.p, is.k)
		if !same(q, is.want) || err != api.OK {
			t.Errorf("Drop(%s, %d): %s %d, want %s", show(is.p), is.k, show(q), err, show(is.want))
		}
	}
}

func TestP19DropErrors(t *testing.T) {
	for i, p := range rightPages() {
		for _, k := range []int{math.MinInt, -1, 0, 1, 2, 38, 39, 40, 41, 1 << 32, math.MaxInt} {
			if k >= 0 && k < len(p.Slots) && p.Slots[k].Used {
				continue
			}
			if q, err := Drop(p, k); q.Slots != nil || err != api.ErrNone {
				t.Errorf("Drop of page %d, slot %d: %s %d, want ErrNone", i, k, show(q), err)
			}
		}
	}
}

func TestP20Text(t *testing.T) {
	for _, is := range []struct {
		p    api.Leaf
		want string
	}{
		{page(), "\x00"}, {page(used("")), "\x01\x01"}, {page(used("a")), "\x01\x02a"}, {page(unused, used("")), "\x02\x00\x01"},
		{page(used("a"), unused, used("\x00\xff")), "\x03\x02a\x00\x03\x00\xff"},
		{page(used(fill(126))), "\x01\x7f" + fill(126)}, {page(used(fill(127))), "\x01\x80\x01" + fill(127)},
		{page(many(40, "")...), "\x28" + strings.Repeat("\x01", 40)},
	} {
		if s, err := Text(is.p); s != is.want || err != api.OK {
			t.Errorf("Text: %q %d, want %q", s, err, is.want)
		}
	}
	for i, p := range rightPages() {
		if s, err := Text(p); s != bytesOf(p) || err != api.OK {
			t.Errorf("Text of page %d: %q %d", i, s, err)
		}
	}
}

func TestP20ReadTurnsTextBack(t *testing.T) {
	for i, p := range rightPages() {
		s := bytesOf(p)
		if q, err := Read(s); !same(q, p) || err != api.OK {
			t.Errorf("Read of page %d: %s %d", i, show(q), err)
		}
		for n := range len(s) {
			wantNoRead(t, s[:n])
		}
		for _, behind := range []string{"\x00", "\x01", "a", s} {
			wantNoRead(t, s+behind)
		}
	}
}

func wantNoRead(t *testing.T, s string) {
	t.Helper()
	if p, err := Read(s); p.Slots != nil || err != api.ErrForm {
		t.Errorf("Read(%.20q) of %d bytes: %s %d, want ErrForm", s, len(s), show(p), err)
	}
}

func TestP20ReadErrors(t *testing.T) {
	nine := strings.Repeat("\x80", 9)
	ones := strings.Repeat("\xff", 9)
	for _, s := range []string{
		"", "\x80", "\x80\x00", "\x81\x00\x01", nine + "\x00", nine + "\x01", nine + "\x02", ones + "\x01", ones + "\xff",
		"\x01", "\x02\x01", "\x01\x02", "\x01\x03a", "\x01\x80\x01a", "\x01\x80",
		"\x01\x00", "\x02\x01\x00", "\x02\x00\x00", "\x01\x82\x00a", "\x01\x80\x00", "\x02\x80\x00\x01",
		"\x01" + nine + "\x01a", "\x01" + nine + "\x02a", "\x01" + ones + "\x01a", "\x01\xff\xff\xff\xff\x0fa", "\x01\x80\x80\x80\x80\x10a",
		"\x01\xff\xff\xff\xff\xff\xff\xff\xff\x7fa", "\x01\x81\x80\x80\x80\x80\x80\x80\x80\x80\x01a",
		"\x29", "\x29" + strings.Repeat("\x01", 41), "\x7f" + strings.Repeat("\x01", 127), "\xac\x02" + strings.Repeat("\x01", 300),
		"\x28" + strings.Repeat("\x01", 39), "\x28" + strings.Repeat("\x01", 41), "\x28" + strings.Repeat("\x01", 39) + "\x00",
		"\x00x", "\x00\x00", "\x01\x01\x00", "\x01\x02ab",
		"\x01\xff\x03" + fill(510), "\x01\x80\x04" + fill(511), "\x02\x00\xfe\x03" + fill(509), "\x01\xff\x03" + fill(509),
		"\x01\x81\x80\x40" + fill(1<<20), fill(1 << 20), strings.Repeat("\x00", 1<<20), strings.Repeat("\x01", 600),
	} {
		wantNoRead(t, s)
	}
}

// smallPages are all pages of at most n slots, with texts of at most two of the bytes 0 to 3.
func smallPages(n int) []api.Leaf {
	const letters = "\x00\x01\x02\x03"
	kinds := []api.Slot{unused, used("")}
	for _, a := range letters {
		kinds = append(kinds, used(string(a)))
		for _, b := range letters {
			kinds = append(kinds, used(string(a)+string(b)))
		}
	}
	all := []api.Leaf{{}}
	from := 0
	for range n {
		end := len(all)
		for _, p := range all[from:end] {
			for _, slot := range kinds {
				all = append(all, page(append(slices.Clone(p.Slots), slot)...))
			}
		}
		from = end
	}
	return all
}

// All texts of at most seven of the bytes 0 to 3: Read takes those that are some page's, and no others.
func TestP20ReadOfAnySmallText(t *testing.T) {
	made := map[string]api.Leaf{}
	for _, p := range smallPages(3) {
		if len(p.Slots) == 0 || p.Slots[len(p.Slots)-1].Used {
			made[bytesOf(p)] = p
		}
	}
	took := 0
	texts := []string{""}
	for i := 0; i < len(texts); i++ {
		s := texts[i]
		p, isMade := made[s]
		if !isMade {
			wantNoRead(t, s)
		} else if q, err := Read(s); !same(q, p) || err != api.OK {
			t.Errorf("Read(%q): %s %d, want %s", s, show(q), err, show(p))
		} else {
			took++
		}
		for b := byte(0); b < 4 && len(s) < 7; b++ {
			texts = append(texts, s+string([]byte{b}))
		}
	}
	if took < 300 {
		t.Errorf("only %d texts were taken", took)
	}
}

func TestP17P20AllSmallPages(t *testing.T) {
	for _, p := range smallPages(3) {
		n := len(p.Slots)
		right := n == 0 || p.Slots[n-1].Used
		s, err := Text(p)
		switch {
		case right && (s != bytesOf(p) || err != api.OK || Check(p) != api.OK):
			t.Errorf("Text(%s): %q %d", show(p), s, err)
		case !right && (s != "" || err != api.ErrForm || Check(p) != api.ErrForm):
			t.Errorf("Text(%s): %q %d, want ErrForm", show(p), s, err)
		}
	}
}

// A byte of a page's bytes is another one: what Read takes then is right again. The seed is fixed.
func TestP20ReadOfChangedBytes(t *testing.T) {
	r := rand.New(rand.NewSource(5))
	took := 0
	for range 200 {
		for _, p := range rightPages() {
			b := []byte(bytesOf(p))
			for range 1 + r.Intn(2) {
				b[r.Intn(min(len(b), 45))] = byte(r.Intn(1 + r.Intn(256)))
			}
			q, err := Read(string(b))
			switch {
			case err == api.OK && bytesOf(q) == string(b) && Check(q) == api.OK:
				took++
			case err != api.ErrForm || q.Slots != nil:
				t.Fatalf("Read(%.40q): %s %d", b, show(q), err)
			}
		}
	}
	if took < 100 {
		t.Errorf("only %d texts were taken", took)
	}
}

// Puts and Drops, one behind another, against a list of what is there. The seed is fixed.
func TestP18P19AgainstAList(t *testing.T) {
	r := rand.New(rand.NewSource(6))
	fulls, holes := 0, 0
	for round := range 150 {
		p, have := api.Leaf{}, map[int]string{}
		longest := []int{3, 20, 140, 520}[round%4]
		for range 200 {
			if r.Intn(5) < 3 {
				text := fill(r.Intn(longest))
				at := 0
				for {
					if _, there := have[at]; !there {
						break
					}
					at++
				}
				if at < len(p.Slots) {
					holes++
				}
				q, k, err := Put(p, text)
				if err == api.ErrFull && q.Slots == nil && k == 0 {
					have[at] = text
					if want := listed(have); len(want.Slots) <= 40 && len(bytesOf(want)) <= 512 {
						t.Fatalf("ErrFull of Put into %d slots", len(p.Slots))
					}
					delete(have, at)
					fulls++
					continue
				}
				if k != at || err != api.OK {
					t.Fatalf("Put: %d %d, want %d", k, err, at)
				}
				p, have[at] = q, text
			} else {
				k := r.Intn(42) - 1
				q, err := Drop(p, k)
				if _, there := have[k]; !there {
					if q.Slots != nil || err != api.ErrNone {
						t.Fatalf("Drop(%d): %d, want ErrNone", k, err)
					}
					continue
				}
				if err != api.OK {
					t.Fatalf("Drop(%d): %d", k, err)
				}
				delete(have, k)
				p = q
			}
			if !same(p, listed(have)) {
				t.Fatalf("the page is %s, want %s", show(p), show(listed(have)))
			}
		}
	}
	if fulls < 100 || holes < 100 {
		t.Errorf("only %d were full, only %d went into the middle", fulls, holes)
	}
}

// listed is the page that has these texts in these slots.
func listed(have map[int]string) api.Leaf {
	var slots []api.Slot
	for k, text := range have {
		for len(slots) <= k {
			slots = append(slots, unused)
		}
		slots[k] = used(text)
	}
	return page(slots...)
}

func overlap(a, b string) bool {
	if a == "" || b == "" {
		return false
	}
	x, y := uintptr(unsafe.Pointer(unsafe.StringData(a))), uintptr(unsafe.Pointer(unsafe.StringData(b)))
	return x < y+uintptr(len(b)) && y < x+uintptr(len(a))
}

// wantApart holds the texts of a page to memory that no other text has.
func wantApart(t *testing.T, what string, p api.Leaf, others ...string) {
	t.Helper()
	for i, slot := range p.Slots {
		for _, other := range others {
			if overlap(slot.Text, other) {
				t.Errorf("%s: slot %d shares memory", what, i)
			}
		}
	}
}

func TestP2TextsAreNewMemory(t *testing.T) {
	given := []string{fill(3), fill(40), fill(200), "x"}
	p := page(used(given[0]), unused, used(given[1]), used(given[2]), used(given[3]))
	text := fill(9)
	q, _, _ := Put(p, text)
	wantApart(t, "Put", q, append(given, text)...)
	q, _ = Drop(p, 0)
	wantApart(t, "Drop", q, given...)
	for k := range p.Slots {
		s, _ := Get(p, k)
		wantApart(t, "Get", page(used(s)), given...)
	}
	s, _ := Text(p)
	wantApart(t, "Text", p, s)
	q, _ = Read(s)
	wantApart(t, "Read", q, s)
	one := page(used(given[2]))
	s, _ = Text(one)
	wantApart(t, "Text of one", one, s)
}

// Lists are handed in with room behind them: neither they nor the room are changed, and what is done to an answer
// or its room is not seen in them.
func TestP2ListsAreApart(t *testing.T) {
	behind := used("behind")
	for i, p := range rightPages() {
		room := append(slices.Clone(p.Slots), behind, behind, behind)
		was := slices.Clone(room)
		in := page(room[:len(p.Slots)]...)
		answers := []api.Leaf{}
		keep := func(q api.Leaf, _ api.Errno) { answers = append(answers, q) }
		Check(in)
		Free(in)
		Text(in)
		q, _, err := Put(in, "a")
		keep(q, err)
		q, _, err = Put(in, "")
		keep(q, err)
		for k := range in.Slots {
			Get(in, k)
			keep(Drop(in, k))
		}
		keep(Read(bytesOf(p)))
		keep(Read(bytesOf(p)))
		if !slices.Equal(room, was) {
			t.Fatalf("page %d: what was handed in is changed", i)
		}
		for n := range answers {
			all := answers[n].Slots[:cap(answers[n].Slots)]
			for k := range all {
				all[k] = used("changed")
			}
			for _, other := range answers[n+1:] {
				if slices.Contains(other.Slots[:cap(other.Slots)], used("changed")) {
					t.Fatalf("page %d: two answers share memory", i)
				}
			}
		}
		if !slices.Equal(room, was) {
			t.Fatalf("page %d: an answer shares memory with what was handed in", i)
		}
	}
}

// A list that has nothing in it but room is no place for an answer.
func TestP2EmptyListWithRoom(t *testing.T) {
	room := many(4, "behind")
	q, k, err := Put(api.Leaf{Slots: room[:0]}, "a")
	if !same(q, page(used("a"))) || k != 0 || err != api.OK {
		t.Errorf("Put: %s %d %d", show(q), k, err)
	}
	q.Slots[0] = used("changed")
	if !slices.Equal(room, many(4, "behind")) {
		t.Errorf("the room is %s now", show(page(room...)))
	}
}

func TestP2NothingIsKept(t *testing.T) {
	for _, p := range rightPages() {
		first, k, err := Put(p, "a")
		for _, is := range wrongPages() {
			Put(is.p, "b")
			Read("\x01\x00")
		}
		second, again, errAgain := Put(p, "a")
		if !same(first, second) || k != again || err != errAgain {
			t.Errorf("Put answers %s %d %d, then %s %d %d", show(first), k, err, show(second), again, errAgain)
		}
	}
}

func TestP2CallsAtOneTime(t *testing.T) {
	p := page(used("a"), unused, used("c"))
	var group sync.WaitGroup
	for hand := range 4 {
		group.Go(func() {
			for n := range 100 {
				text := fill(n + hand)
				q, k, err := Put(p, text)
				if !same(q, page(used("a"), used(text), used("c"))) || k != 1 || err != api.OK {
					t.Errorf("Put: %s %d %d", show(q), k, err)
				}
				q, err = Drop(q, 2)
				if !same(q, page(used("a"), used(text))) || err != api.OK {
					t.Errorf("Drop: %s %d", show(q), err)
				}
			}
		})
	}
	group.Wait()
}

func TestP1NoCallPanics(t *testing.T) {
	r := rand.New(rand.NewSource(7))
	for range 3000 {
		p := page(make([]api.Slot, r.Intn(45))...)
		for i := range p.Slots {
			p.Slots[i].Used = r.Intn(4) > 0
			if p.Slots[i].Used || r.Intn(40) == 0 {
				p.Slots[i].Text = fill(r.Intn(1 + r.Intn(60)))
			}
		}
		Check(p)
		Free(p)
		Put(p, fill(r.Intn(600)))
		for _, k := range []int{math.MinInt, -1, 0, r.Intn(45), len(p.Slots), math.MaxInt} {
			Get(p, k)
			Drop(p, k)
		}
		Text(p)
		b := make([]byte, r.Intn(30))
		for i := range b {
			b[i] = byte(r.Intn(1 + r.Intn(256)))
		}
		Read(string(b))
	}
}
