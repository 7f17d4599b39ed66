package sect

import (
	"fmt"
	"math"
	"math/rand"
	"slices"
	"strings"
	"sync"
	"testing"
	"unsafe"

	"quirestock/api"
)

func newDisk(t *testing.T, n int) *Disk {
	t.Helper()
	d, err := New(n)
	if d == nil || err != api.OK {
		t.Fatalf("New(%d) = %v %d", n, d, err)
	}
	return d
}

// full is a text with bytes 0 behind it up to a sector.
func full(text string) string { return text + strings.Repeat("\x00", 64-len(text)) }

func wantErr(t *testing.T, what string, err, want api.Errno) {
	t.Helper()
	if err != want {
		t.Errorf("%s: %d, want %d", what, err, want)
	}
}

// wantSeen holds the disk to these texts, and to no other sector.
func wantSeen(t *testing.T, d *Disk, texts ...string) {
	t.Helper()
	if d.Len() != len(texts) {
		t.Errorf("%d sectors, want %d", d.Len(), len(texts))
	}
	for at, text := range texts {
		if s, err := d.Read(at); s != full(text) || err != api.OK {
			t.Errorf("sector %d: %q %d, want %q", at, s, err, text)
		}
	}
}

// writeAll writes texts to sectors, each given as "sector text".
func writeAll(t *testing.T, d *Disk, writes ...string) {
	t.Helper()
	for _, w := range writes {
		wantErr(t, "Write "+w, d.Write(int(w[0]-'0'), w[2:]), api.OK)
	}
}

func TestP9New(t *testing.T) {
	for _, n := range []int{1, 2, 3, 64, 255, 256} {
		d := newDisk(t, n)
		wantSeen(t, d, make([]string, n)...)
		d.Crash(nil)
		wantSeen(t, d, make([]string, n)...)
	}
}

func TestP9NewErrors(t *testing.T) {
	for _, n := range []int{math.MinInt, -256, -1, 0, 257, 258, 512, 1 << 32, 1<<32 + 1, math.MaxInt} {
		if d, err := New(n); d != nil || err != api.ErrArg {
			t.Errorf("New(%d) = %v %d, want ErrArg", n, d, err)
		}
	}
}

func TestP9LenStays(t *testing.T) {
	d := newDisk(t, 5)
	d.Write(4, "a")
	d.Write(5, "a")
	d.Flush()
	d.Fuse(0)
	if d.Len() != 5 {
		t.Errorf("Len of a disk that is down: %d", d.Len())
	}
	d.Crash([]bool{true})
	if d.Len() != 5 {
		t.Errorf("Len behind a crash: %d", d.Len())
	}
}

func TestP10WriteIsSeenAtOnce(t *testing.T) {
	d := newDisk(t, 3)
	writeAll(t, d, "0 first", "2 third")
	wantSeen(t, d, "first", "", "third")
	writeAll(t, d, "0 b")
	wantSeen(t, d, "b", "", "third")
	writeAll(t, d, "2 ")
	wantSeen(t, d, "b", "", "")
	writeAll(t, d, "1 \x00\xff\x00")
	wantSeen(t, d, "b", "\x00\xff\x00", "")
	for _, n := range []int{1, 63, 64} {
		text := strings.Repeat("\xff", n)
		writeAll(t, d, "1 "+text)
		wantSeen(t, d, "b", text, "")
	}
}

func TestP10WriteIsNotSafeYet(t *testing.T) {
	d := newDisk(t, 2)
	writeAll(t, d, "0 a", "1 b")
	d.Crash(nil)
	wantSeen(t, d, "", "")
}

func TestP10TheGreatestDisk(t *testing.T) {
	d := newDisk(t, 256)
	var want []string
	for at := range 256 {
		want = append(want, fmt.Sprint("sector ", at))
		wantErr(t, want[at], d.Write(at, want[at]), api.OK)
	}
	wantSeen(t, d, want...)
	d.Flush()
	d.Crash(nil)
	wantSeen(t, d, want...)
}

func TestP10Errors(t *testing.T) {
	d := newDisk(t, 3)
	writeAll(t, d, "0 a", "1 b", "2 c")
	long := []string{strings.Repeat("x", 65), strings.Repeat("x", 4096), strings.Repeat("\x00", 65)}
	noSectors := []int{math.MinInt, -3, -1, 3, 4, 256, 1 << 32, math.MaxInt}
	for _, isDown := range []bool{false, true} {
		if isDown {
			d.Fuse(0)
		}
		for _, at := range noSectors {
			wantErr(t, "Write to no sector", d.Write(at, "x"), api.ErrArg)
			wantErr(t, "Write of too much to no sector", d.Write(at, long[0]), api.ErrArg)
			if s, err := d.Read(at); s != "" || err != api.ErrArg {
				t.Errorf("Read(%d) = %q %d, want ErrArg", at, s, err)
			}
		}
		for _, text := range long {
			wantErr(t, "Write of too much", d.Write(1, text), api.ErrLarge)
		}
	}
	for at := range 3 {
		wantErr(t, "Write while down", d.Write(at, strings.Repeat("x", 64)), api.ErrDown)
		if s, err := d.Read(at); s != "" || err != api.ErrDown {
			t.Errorf("Read(%d) = %q %d, want ErrDown", at, s, err)
		}
	}
	d.Fuse(-1)
	wantSeen(t, d, "a", "b", "c")
	d.Crash([]bool{true, true, true, true, true, true, true})
	wantSeen(t, d, "a", "b", "c")
}

func TestP11FlushMakesAllSafe(t *testing.T) {
	d := newDisk(t, 3)
	writeAll(t, d, "0 a", "1 b", "0 c")
	wantErr(t, "Flush", d.Flush(), api.OK)
	wantSeen(t, d, "c", "b", "")
	d.Crash([]bool{true, false})
	wantSeen(t, d, "c", "b", "")
	wantErr(t, "Flush of nothing", d.Flush(), api.OK)
	wantErr(t, "Flush of nothing", d.Flush(), api.OK)
	d.Crash(nil)
	wantSeen(t, d, "c", "b", "")
}

func TestP11FlushWhileDownMakesNothingSafe(t *testing.T) {
	d := newDisk(t, 2)
	writeAll(t, d, "0 a")
	d.Fuse(0)
	wantErr(t, "Flush", d.Flush(), api.ErrDown)
	d.Fuse(-1)
	wantSeen(t, d, "a", "")
	d.Crash(nil)
	wantSeen(t, d, "", "")
}

// Reads, and Writes that tell ErrArg or ErrLarge, do not count.
func TestP11FuseCountsWritesAndFlushes(t *testing.T) {
	for n := range 6 {
		for flushes := range 1 << n {
			d := newDisk(t, 2)
			d.Fuse(n)
			for k := range n {
				d.Read(0)
				d.Read(2)
				wantErr(t, "Write to no sector", d.Write(2, "x"), api.ErrArg)
				wantErr(t, "Write of too much", d.Write(0, strings.Repeat("x", 65)), api.ErrLarge)
				if _, err := d.Read(0); err != api.OK {
					t.Errorf("Fuse(%d): down behind %d", n, k)
				}
				if flushes>>k%2 == 1 {
					wantErr(t, "Flush", d.Flush(), api.OK)
				} else {
					wantErr(t, "Write", d.Write(1, fmt.Sprint(k)), api.OK)
				}
			}
			if _, err := d.Read(0); err != api.ErrDown {
				t.Errorf("Fuse(%d): Read %d, want ErrDown", n, err)
			}
			wantErr(t, "Write", d.Write(0, ""), api.ErrDown)
			wantErr(t, "Flush", d.Flush(), api.ErrDown)
			wantErr(t, "Write", d.Write(0, ""), api.ErrDown)
		}
	}
}

func TestP11TheNewestFuseHolds(t *testing.T) {
	d := newDisk(t, 1)
	d.Fuse(1)
	d.Fuse(3)
	writeAll(t, d, "0 a", "0 b", "0 c")
	wantErr(t, "behind 3", d.Write(0, "x"), api.ErrDown)
	d.Fuse(2)
	writeAll(t, d, "0 d")
	d.Fuse(1)
	writeAll(t, d, "0 e")
	wantErr(t, "behind 1", d.Flush(), api.ErrDown)
	d.Fuse(4)
	wantSeen(t, d, "e")
	d.Fuse(0)
	wantErr(t, "at once", d.Write(0, "x"), api.ErrDown)
	d.Fuse(math.MaxInt)
	writeAll(t, d, "0 f")
	for _, n := range []int{-1, -2, math.MinInt} {
		d.Fuse(0)
		d.Fuse(n)
		wantSeen(t, d, "f")
		d.Fuse(2)
		d.Fuse(n)
		for range 9 {
			writeAll(t, d, "0 f")
			wantErr(t, "no fuse", d.Flush(), api.OK)
		}
	}
}

// A disk that is down has lost nothing: what was not safe is seen when it is up, and not safe still.
func TestP11DownLosesNothing(t *testing.T) {
	d := newDisk(t, 2)
	d.Fuse(2)
	writeAll(t, d, "0 a", "1 b")
	wantErr(t, "Write", d.Write(0, "x"), api.ErrDown)
	d.Fuse(1)
	writeAll(t, d, "0 c")
	d.Fuse(-1)
	wantSeen(t, d, "c", "b")
	d.Crash([]bool{true, false, false, true})
	wantSeen(t, d, "a", "")
}

func TestP12CrashKeepsWhatIsTold(t *testing.T) {
	writes := []string{"0 b", "1 c", "0 d", "2 e", "0 f", "1 "}
	for n := range 8 {
		for bits := range 1 << n {
			d := newDisk(t, 3)
			writeAll(t, d, "0 a", "1 aa", "2 aaa")
			d.Flush()
			writeAll(t, d, writes...)
			want := []string{"a", "aa", "aaa"}
			keep := make([]bool, n)
			for i := range keep {
				keep[i] = bits>>i%2 == 1
				if keep[i] && i < len(writes) {
					want[writes[i][0]-'0'] = writes[i][2:]
				}
			}
			d.Crash(keep)
			wantSeen(t, d, want...)
			d.Crash([]bool{true, true, true, true, true, true})
			wantSeen(t, d, want...)
		}
	}
}

func TestP12OnlyWritesThatAnsweredOKAreNumbered(t *testing.T) {
	d := newDisk(t, 2)
	d.Write(2, "x")
	d.Write(0, strings.Repeat("x", 65))
	writeAll(t, d, "0 a")
	d.Fuse(0)
	d.Write(1, "x")
	d.Flush()
	d.Fuse(-1)
	d.Write(-1, "x")
	writeAll(t, d, "0 b", "1 c")
	d.Crash([]bool{true, false, true})
	wantSeen(t, d, "a", "c")
}

// To write what was there already is a Write, too.
func TestP12TheSameTextIsNumbered(t *testing.T) {
	d := newDisk(t, 1)
	writeAll(t, d, "0 ", "0 a", "0 a", "0 b")
	d.Crash([]bool{false, false, true, false})
	wantSeen(t, d, "a")
	writeAll(t, d, "0 a", "0 b", "0 a")
	d.Crash([]bool{false, true})
	wantSeen(t, d, "b")
}

func TestP12AllIsSafeBehindACrash(t *testing.T) {
	d := newDisk(t, 2)
	writeAll(t, d, "0 a", "1 b")
	d.Crash([]bool{true, true})
	d.Crash(nil)
	wantSeen(t, d, "a", "b")
	writeAll(t, d, "0 c", "1 d")
	d.Crash([]bool{false, true})
	wantSeen(t, d, "a", "d")
}

func TestP12TheDiskIsUpBehindACrash(t *testing.T) {
	for _, n := range []int{-1, 0, 1, 2, 3} {
		d := newDisk(t, 1)
		d.Fuse(n)
		d.Write(0, "a")
		d.Crash([]bool{true})
		for range 5 {
			writeAll(t, d, "0 b")
			wantErr(t, "Flush", d.Flush(), api.OK)
		}
		wantSeen(t, d, "b")
	}
}

// telling is a disk as the chapter's words have it: what was safe, and all Writes since.
type telling struct {
	safe   []string
	at     []int
	texts  []string
	more   int
	isDown bool
}

func (m *telling) seen(at int) string {
	for i := len(m.at) - 1; i >= 0; i-- {
		if m.at[i] == at {
			return m.texts[i]
		}
	}
	return m.safe[at]
}

func (m *telling) fuse(n int) { m.more, m.isDown = n, n == 0 }

func (m *telling) count() {
	if m.more > 0 {
		m.more--
		m.isDown = m.more == 0
	}
}

func (m *telling) write(at int, text string) api.Errno {
	switch {
	case at < 0 || at >= len(m.safe):
		return api.ErrArg
	case len(text) > 64:
		return api.ErrLarge
	case m.isDown:
		return api.ErrDown
	}
	m.at, m.texts = append(m.at, at), append(m.texts, full(text))
	m.count()
	return api.OK
}

func (m *telling) read(at int) (string, api.Errno) {
	switch {
	case at < 0 || at >= len(m.safe):
		return "", api.ErrArg
	case m.isDown:
		return "", api.ErrDown
	}
	return m.seen(at), api.OK
}

func (m *telling) flush() api.Errno {
	if m.isDown {
		return api.ErrDown
	}
	for at := range m.safe {
		m.safe[at] = m.seen(at)
	}
	m.at, m.texts = nil, nil
	m.count()
	return api.OK
}

func (m *telling) crash(keep []bool) {
	for i, at := range m.at {
		if i < len(keep) && keep[i] {
			m.safe[at] = m.texts[i]
		}
	}
	m.at, m.texts = nil, nil
	m.fuse(-1)
}

func someBools(r *rand.Rand, n int) []bool {
	l := make([]bool, n)
	for i := range l {
		l[i] = r.Intn(2) == 0
	}
	return l
}

// The seed is fixed: each run of the test is the same one.
func TestP10P11P12AgainstTheTelling(t *testing.T) {
	r := rand.New(rand.NewSource(3))
	for range 300 {
		n := 1 + r.Intn(6)
		d, m := newDisk(t, n), &telling{safe: make([]string, n), more: -1}
		for at := range m.safe {
			m.safe[at] = full("")
		}
		for step := range 120 {
			at := r.Intn(n+2) - 1
			text := strings.Repeat(string([]byte{byte(step)}), r.Intn(67))
			switch k := r.Intn(20); {
			case k < 9:
				wantErr(t, "Write", d.Write(at, text), m.write(at, text))
			case k < 14:
				s, err := d.Read(at)
				if want, e := m.read(at); s != want || err != e {
					t.Fatalf("Read(%d) = %q %d, want %q %d", at, s, err, want, e)
				}
			case k < 16:
				wantErr(t, "Flush", d.Flush(), m.flush())
			case k < 18:
				n := r.Intn(8) - 2
				d.Fuse(n)
				m.fuse(n)
			default:
				keep := someBools(r, r.Intn(12))
				d.Crash(keep)
				m.crash(keep)
			}
		}
	}
}

func TestP2NothingHandedInIsChangedOrKept(t *testing.T) {
	d := newDisk(t, 1)
	b := []byte("abc")
	// A text whose bytes change later on shows whether the disk has a copy.
	wantErr(t, "Write", d.Write(0, unsafe.String(&b[0], len(b))), api.OK)
	copy(b, "xyz")
	wantSeen(t, d, "abc")
	d.Crash([]bool{true})
	wantSeen(t, d, "abc")

	writeAll(t, d, "0 d", "0 e")
	room := []bool{true, false, true, true}
	d.Crash(room[:2])
	if !slices.Equal(room, []bool{true, false, true, true}) {
		t.Errorf("keep was changed: %v", room)
	}
	room[0], room[1] = false, true
	wantSeen(t, d, "d")
}

func overlap(a, b string) bool {
	fromA, fromB := uintptr(unsafe.Pointer(unsafe.StringData(a))), uintptr(unsafe.Pointer(unsafe.StringData(b)))
	return fromA < fromB+uintptr(len(b)) && fromB < fromA+uintptr(len(a))
}

func TestP2AnswersAreNewMemory(t *testing.T) {
	d := newDisk(t, 1)
	text := strings.Repeat("a", 64)
	writeAll(t, d, "0 "+text)
	first, _ := d.Read(0)
	second, _ := d.Read(0)
	if overlap(first, text) || overlap(first, second) {
		t.Error("Read shares memory")
	}
	writeAll(t, d, "0 b")
	d.Flush()
	d.Crash(nil)
	if first != text || second != text {
		t.Error("what was read has changed")
	}
}

func TestP2DisksAreApart(t *testing.T) {
	one, two := newDisk(t, 2), newDisk(t, 2)
	writeAll(t, one, "0 a")
	writeAll(t, two, "1 b")
	one.Fuse(0)
	wantSeen(t, two, "", "b")
	two.Flush()
	one.Crash(nil)
	wantSeen(t, one, "", "")
	wantSeen(t, two, "", "b")
	wantSeen(t, newDisk(t, 2), "", "")
}

func TestP2DisksAtOneTime(t *testing.T) {
	var all sync.WaitGroup
	for hand := range 4 {
		all.Go(func() {
			d, _ := New(4)
			for k := range 500 {
				text := fmt.Sprint(hand, k)
				d.Write(k%4, text)
				d.Flush()
				d.Write(k%4, "lost")
				d.Crash(nil)
				if s, err := d.Read(k % 4); s != full(text) || err != api.OK {
					t.Errorf("%q came back as %q, %d", text, s, err)
				}
			}
		})
	}
	all.Wait()
}

func TestP1NoCallPanics(t *testing.T) {
	defer func() {
		if r := recover(); r != nil {
			t.Error("panic:", r)
		}
	}()
	numbers := []int{math.MinInt, -1, 0, 1, 2, 255, 256, 257, math.MaxInt}
	disks := []*Disk{{}}
	for _, n := range numbers {
		if d, _ := New(n); d != nil {
			disks = append(disks, d)
		}
	}
	for _, d := range disks {
		for _, n := range numbers {
			d.Fuse(n)
			for _, at := range numbers {
				d.Write(at, "")
				d.Write(at, strings.Repeat("x", 64))
				d.Write(at, strings.Repeat("x", 1<<16))
				d.Read(at)
			}
			d.Flush()
			d.Len()
			d.Write(0, "a")
			d.Crash(make([]bool, 9))
			d.Crash([]bool{true})
			d.Crash(nil)
		}
	}
}
