package wal

import (
	"fmt"
	"math"
	"math/rand"
	"slices"
	"strings"
	"sync"
	"testing"
	"unsafe"

	"quirestock/api"
	"quirestock/sect"
)

const maxEpoch = 1000000

func newDisk(t *testing.T, n int) *sect.Disk {
	t.Helper()
	d, err := sect.New(n)
	if err != api.OK {
		t.Fatalf("New(%d): %d", n, err)
	}
	return d
}

// zeros is a text with bytes 0 behind it up to a sector.
func zeros(text string) string { return text + strings.Repeat("\x00", 64-len(text)) }

func wantErr(t *testing.T, what string, err, want api.Errno) {
	t.Helper()
	if err != want {
		t.Errorf("%s: %d, want %d", what, err, want)
	}
}

// mustOpen opens a log that is to tell these texts, and to have so much room.
func mustOpen(t *testing.T, d *sect.Disk, from, n, room int, texts ...string) *Log {
	t.Helper()
	l, s, err := Open(d, from, n)
	if l == nil || err != api.OK {
		t.Fatalf("Open: %v %q %d", l, s, err)
	}
	if !slices.Equal(s, texts) {
		t.Fatalf("Open tells %q, want %q", s, texts)
	}
	wantRoom(t, l, room)
	return l
}

// noOpen holds Open to an error, with nothing beside it.
func noOpen(t *testing.T, d *sect.Disk, from, n int, want api.Errno) {
	t.Helper()
	l, s, err := Open(d, from, n)
	if l != nil || s != nil || err != want {
		t.Errorf("Open(%d, %d): %v %q %d, want %d and nothing else", from, n, l, s, err, want)
	}
}

func wantRoom(t *testing.T, l *Log, room int) {
	t.Helper()
	if l.Room() != room {
		t.Errorf("Room: %d, want %d", l.Room(), room)
	}
}

// wantSectors holds the disk, from a sector on, to these bytes.
func wantSectors(t *testing.T, d *sect.Disk, from int, texts ...string) {
	t.Helper()
	for i, text := range texts {
		if s, err := d.Read(from + i); s != zeros(text) || err != api.OK {
			t.Errorf("sector %d: %q %d, want %q", from+i, s, err, text)
		}
	}
}

func lay(t *testing.T, d *sect.Disk, from int, sectors ...string) {
	t.Helper()
	for i, s := range sectors {
		wantErr(t, "Write", d.Write(from+i, s), api.OK)
	}
}

func all(d *sect.Disk) string {
	var b strings.Builder
	for at := range d.Len() {
		s, _ := d.Read(at)
		b.WriteString(s)
	}
	return b.String()
}

// The forms of bytes, written out here once more, so that the tests do not
// lean on what they test.

func nat(n uint64) string {
	if n < 128 {
		return string([]byte{byte(n)})
	}
	return string([]byte{byte(n | 128)}) + nat(n>>7)
}

func integer(n int) string { return nat(uint64(n<<1) ^ uint64(n>>63)) }

func summed(s string) string {
	a, b := 1, 0
	for i := range len(s) {
		a = (a + int(s[i])) % 65521
		b = (b + a) % 65521
	}
	return s + string([]byte{byte(b >> 8), byte(b), byte(a >> 8), byte(a)})
}

func anchorOf(epoch int) string { return zeros("\x03" + summed(integer(epoch))) }

// cut lays a record's bytes into sectors.
func cut(epoch, number int, rest string) []string {
	var l []string
	for mark := "\x01"; rest != ""; mark = "\x02" {
		head := mark + integer(epoch) + integer(number)
		n := min(64-len(head), len(rest))
		l = append(l, zeros(head+rest[:n]))
		rest = rest[n:]
	}
	return l
}

func recordOf(epoch, number int, text string) []string {
	return cut(epoch, number, summed(nat(uint64(len(text)))+text))
}

// rising is a text of n bytes, each other than those near it.
func rising(n int) string {
	b := make([]byte, n)
	for i := range b {
		b[i] = byte(7*i + 1)
	}
	return string(b)
}

func TestP13Bytes(t *testing.T) {
	d := newDisk(t, 12)
	l := mustOpen(t, d, 1, 10, 9)
	l.Append("a")
	l.Append("")
	text := rising(100)
	l.Append(text)
	// Of text's 61 bytes of room in the first sector one has the length.
	sum := summed("\x64" + text)[101:]
	wantSectors(t, d, 0, "",
		"\x03\x02\x00\x03\x00\x03",
		"\x01\x02\x00\x01a\x00\x65\x00\x63",
		"\x01\x02\x02\x00\x00\x01\x00\x01",
		"\x01\x02\x04\x64"+text[:60],
		"\x02\x02\x04"+text[60:]+sum,
		"", "", "", "", "", "")
	wantErr(t, "Reset", l.Reset("b"), api.OK)
	wantSectors(t, d, 1,
		"\x03\x04\x00\x05\x00\x05",
		"\x01\x04\x00\x01b\x00\x66\x00\x64",
		"\x01\x02\x02\x00\x00\x01\x00\x01")
}

// Where the epoch or the number takes more bytes there is less room behind it.
func TestP13HeadsGrow(t *testing.T) {
	for _, epoch := range []int{1, 63, 64, 8191, 8192, 999999, maxEpoch} {
		for _, n := range []int{0, 1, 50, 54, 55, 56, 57, 110, 111, 112, 113, 127, 128, 200, 299, 300} {
			d := newDisk(t, 100)
			lay(t, d, 0, anchorOf(epoch-1))
			l := mustOpen(t, d, 0, 100, 99)
			wantSectors(t, d, 0, anchorOf(epoch))
			var want []string
			for number := range 67 {
				text := ""
				if number > 62 {
					text = rising(n)
				}
				want = append(want, recordOf(epoch, number, text)...)
				wantErr(t, "Append", l.Append(text), api.OK)
			}
			wantSectors(t, d, 1, want...)
			wantSectors(t, d, 1+len(want), make([]string, 99-len(want))...)
			wantRoom(t, l, 99-len(want))
		}
	}
}

// The log's numbers go on where those of what it found end.
func TestP13NumbersGoOn(t *testing.T) {
	d := newDisk(t, 6)
	for i := range 5 {
		l := mustOpen(t, d, 0, 6, 5-i, []string{"0", "1", "2", "3"}[:i]...)
		wantErr(t, "Append", l.Append(fmt.Sprint(i)), api.OK)
		wantSectors(t, d, 0, anchorOf(i+1))
		wantSectors(t, d, i+1, recordOf(i+1, i, fmt.Sprint(i))...)
	}
}

func TestP14Arguments(t *testing.T) {
	d := newDisk(t, 8)
	lay(t, d, 3, "no anchor")
	least, most := math.MinInt, math.MaxInt
	for _, is := range [][2]int{
		{-1, 4}, {-1, 9}, {least, 4}, {least, least}, {least, most}, {-8, 8},
		{0, 1}, {0, 0}, {0, -1}, {0, least}, {0, 9}, {0, most}, {3, 1},
		{1, 8}, {6, 3}, {7, 2}, {8, 2}, {8, 0}, {9, 2}, {most, 2}, {most, most}, {most - 1, 2}, {2, most}, {1 << 32, 2}, {0, 1<<32 + 2},
	} {
		before := all(d)
		noOpen(t, d, is[0], is[1], api.ErrArg)
		d.Fuse(0)
		noOpen(t, d, is[0], is[1], api.ErrArg)
		d.Fuse(-1)
		if all(d) != before {
			t.Errorf("Open(%d, %d) wrote", is[0], is[1])
		}
	}
	noOpen(t, newDisk(t, 1), 0, 2, api.ErrArg)
	noOpen(t, new(sect.Disk), 0, 2, api.ErrArg)
	mustOpen(t, d, 6, 2, 1)
	mustOpen(t, newDisk(t, 8), 0, 8, 7)
	mustOpen(t, newDisk(t, 256), 0, 256, 255)
	mustOpen(t, newDisk(t, 256), 254, 2, 1)
}

func TestP14Anchors(t *testing.T) {
	for _, epoch := range []int{0, 1, 2, 63, 64, 8191, 8192, maxEpoch - 1} {
		d := newDisk(t, 4)
		lay(t, d, 1, anchorOf(epoch))
		mustOpen(t, d, 1, 3, 2)
		wantSectors(t, d, 1, anchorOf(epoch+1))
	}
	d := newDisk(t, 4)
	mustOpen(t, d, 1, 3, 2)
	wantSectors(t, d, 1, anchorOf(1))
}

func TestP14WrongAnchors(t *testing.T) {
	good := anchorOf(5)
	wrong := []string{
		"\x00\x01", zeros("")[:63] + "\x01", "\x03", "?",
		"\x01" + good[1:], "\x02" + good[1:], "\x00" + good[1:], "\x04" + good[1:], good[1:],
		good[:6] + "\x01", good[:63] + "\x01", good[:6] + good[:6],
		anchorOf(-1), anchorOf(-2), anchorOf(math.MinInt), anchorOf(math.MaxInt),
		anchorOf(maxEpoch + 1), anchorOf(2 * maxEpoch),
		"\x03" + summed("\x80\x00"), "\x03" + summed("\x8a\x00"), "\x03" + summed("\x8a\x80\x00"),
		"\x03" + summed("\x0a\x00"), "\x03" + summed(""), "\x03\x0a",
		"\x03" + strings.Repeat("\xff", 63), "\x03" + summed(strings.Repeat("\xff", 9)+"\x02"),
	}
	for i := range 6 {
		for _, change := range []byte{1, 128} {
			b := []byte(good)
			b[i] ^= change
			wrong = append(wrong, string(b))
		}
	}
	for _, s := range wrong {
		d := newDisk(t, 5)
		lay(t, d, 1, s)
		lay(t, d, 2, recordOf(1, 0, "a")...)
		before := all(d)
		noOpen(t, d, 1, 3, api.ErrForm)
		if all(d) != before {
			t.Errorf("Open of the anchor %q wrote", s)
		}
		d.Fuse(0)
		noOpen(t, d, 1, 3, api.ErrDown)
	}
}

// One record too few, of too high an epoch, at a wrong place: Open tells those ahead.
func TestP14FirstPlaceWithoutOne(t *testing.T) {
	long := rising(130)
	for _, is := range []struct {
		what    string
		sectors [][]string
		want    []string
	}{
		{"right ones", [][]string{recordOf(2, 0, "a"), recordOf(2, 1, long), recordOf(5, 2, "c")}, []string{"a", long, "c"}},
		{"epoch 0", [][]string{recordOf(0, 0, "a"), recordOf(0, 1, "b"), recordOf(5, 2, "c")}, []string{"a", "b", "c"}},
		{"none first", [][]string{{""}, recordOf(2, 0, "a")}, nil},
		{"a hole", [][]string{recordOf(2, 0, "a"), {""}, recordOf(2, 1, "b")}, []string{"a"}},
		{"number 1 first", [][]string{recordOf(2, 1, "a"), recordOf(2, 2, "b")}, nil},
		{"a number left out", [][]string{recordOf(2, 0, "a"), recordOf(2, 2, "b")}, []string{"a"}},
		{"a number twice", [][]string{recordOf(2, 0, "a"), recordOf(2, 0, "b")}, []string{"a"}},
		{"a number below 0", [][]string{recordOf(2, -1, "a")}, nil},
		{"an epoch below 0", [][]string{recordOf(-1, 0, "a")}, nil},
		{"an epoch far below 0", [][]string{recordOf(math.MinInt, 0, "a")}, nil},
		{"the anchor's epoch", [][]string{recordOf(5, 0, "a")}, []string{"a"}},
		{"above the anchor's", [][]string{recordOf(5, 0, "a"), recordOf(6, 1, "b")}, []string{"a"}},
		{"far above the anchor's", [][]string{recordOf(math.MaxInt, 0, long)}, nil},
		{"above the anchor's, and back", [][]string{recordOf(6, 0, "a"), recordOf(5, 1, "b")}, nil},
		{"below the one ahead", [][]string{recordOf(3, 0, "a"), recordOf(2, 1, "b"), recordOf(3, 2, "c")}, []string{"a"}},
		{"a later part first", [][]string{recordOf(2, 0, long)[1:]}, nil},
		{"an anchor for a record", [][]string{{anchorOf(2)}, recordOf(2, 0, "a")}, nil},
		{"too long a number", [][]string{{"\x01\x84\x00\x00" + summed("\x01a")}}, nil},
		{"too long a record's number", [][]string{{"\x01\x04\x80\x00" + summed("\x01a")}}, nil},
		{"no end of an epoch", [][]string{{"\x01" + strings.Repeat("\xff", 63)}}, nil},
		{"no end of a number", [][]string{{"\x01\x04" + strings.Repeat("\xff", 62)}}, nil},
		{"no end of a length", [][]string{{"\x01\x04\x00" + strings.Repeat("\xff", 61)}}, nil},
		{"the greatest length", [][]string{{"\x01\x04\x00" + strings.Repeat("\xff", 9) + "\x01"}}, nil},
		{"a length that is one of another form", [][]string{cut(2, 0, summed("\x81\x00a"))}, nil},
		{"300 bytes", [][]string{recordOf(2, 0, rising(300)), recordOf(2, 1, "b")}, []string{rising(300), "b"}},
		{"301 bytes", [][]string{recordOf(2, 0, rising(301)), recordOf(2, 1, "b")}, nil},
		{"bytes behind the last one", [][]string{{"\x01\x04\x00" + summed("\x01a") + strings.Repeat("?", 55)}, recordOf(2, 1, "b")}, []string{"a", "b"}},
	} {
		d := newDisk(t, 30)
		lay(t, d, 3, anchorOf(5))
		at := 4
		room := 19
		for i, sectors := range is.sectors {
			lay(t, d, at, sectors...)
			at += len(sectors)
			if i < len(is.want) {
				room -= len(sectors)
			}
		}
		t.Run(is.what, func(t *testing.T) { mustOpen(t, d, 3, 20, room, is.want...) })
		wantSectors(t, d, 3, anchorOf(6))
	}
}

// Whatever byte of a record is another one: it is none, and none behind it is.
func TestP14EachByteCounts(t *testing.T) {
	text := rising(140)
	sectors := recordOf(2, 1, text)
	used := []int{64, 64, 3 + 2 + 140 + 4 - 61 - 61}
	for i, s := range sectors {
		for k := range used[i] {
			for _, change := range []byte{1, 2, 3, 4, 8, 128, 255} {
				d := newDisk(t, 10)
				lay(t, d, 0, anchorOf(9))
				lay(t, d, 1, recordOf(2, 0, "a")...)
				lay(t, d, 2, sectors...)
				lay(t, d, 5, recordOf(2, 2, "c")...)
				b := []byte(s)
				b[k] ^= change
				lay(t, d, 2+i, string(b))
				_, told, err := Open(d, 0, 10)
				if !slices.Equal(told, []string{"a"}) || err != api.OK {
					t.Fatalf("byte %d of sector %d changed by %d: %q %d", k, i, change, told, err)
				}
			}
		}
	}
}

// A later sector of another epoch or number is not this record's, though the bytes are.
func TestP14PartsOfAnother(t *testing.T) {
	text := rising(140)
	mine := recordOf(2, 0, text)
	for _, other := range [][]string{recordOf(1, 0, text), recordOf(3, 0, text), recordOf(2, 1, text), {mine[0], mine[0], mine[0]}, {"", "", ""}} {
		for i := 1; i < 3; i++ {
			d := newDisk(t, 6)
			lay(t, d, 0, anchorOf(4))
			lay(t, d, 1, mine...)
			lay(t, d, 1+i, other[i])
			mustOpen(t, d, 0, 6, 5)
		}
	}
	d := newDisk(t, 6)
	lay(t, d, 0, anchorOf(4))
	lay(t, d, 1, mine[0], mine[2], mine[1])
	mustOpen(t, d, 0, 6, 5)
}

// What lies behind the log is none of its own.
func TestP14WithinTheLog(t *testing.T) {
	for _, n := range []int{0, 56, 57, 117, 118, 300} {
		text := rising(n)
		sectors := recordOf(2, 1, text)
		for size := 2; size < 10; size++ {
			d := newDisk(t, 12)
			lay(t, d, 1, anchorOf(4))
			lay(t, d, 2, recordOf(2, 0, "a")...)
			lay(t, d, 3, sectors...)
			lay(t, d, 3+len(sectors), recordOf(2, 2, "c")...)
			switch {
			case size < 2+len(sectors):
				mustOpen(t, d, 1, size, size-2, "a")
			case size < 3+len(sectors):
				mustOpen(t, d, 1, size, 0, "a", text)
			default:
				mustOpen(t, d, 1, size, size-3-len(sectors), "a", text, "c")
			}
		}
	}
}

func TestP14RaiseIsSafe(t *testing.T) {
	d := newDisk(t, 4)
	lay(t, d, 0, anchorOf(7))
	lay(t, d, 1, recordOf(3, 0, "a")...)
	mustOpen(t, d, 0, 4, 2, "a")
	d.Crash(nil)
	wantSectors(t, d, 0, anchorOf(8))
	mustOpen(t, d, 0, 4, 2, "a")
	wantSectors(t, d, 0, anchorOf(9))
}

func TestP14RaiseErrors(t *testing.T) {
	d := newDisk(t, 4)
	lay(t, d, 0, anchorOf(7))
	lay(t, d, 1, recordOf(3, 0, "a")...)
	d.Flush()
	for n, anchor := range []int{7, 8} {
		d.Fuse(n)
		noOpen(t, d, 0, 4, api.ErrDown)
		d.Fuse(-1)
		wantSectors(t, d, 0, anchorOf(anchor))
		d.Crash(nil)
		wantSectors(t, d, 0, anchorOf(7))
	}
	d.Fuse(2)
	mustOpen(t, d, 0, 4, 2, "a")
	wantErr(t, "Write", d.Write(0, ""), api.ErrDown)
	d.Crash(nil)
	lay(t, d, 0, anchorOf(maxEpoch))
	before := all(d)
	noOpen(t, d, 0, 4, api.ErrFull)
	noOpen(t, d, 0, 4, api.ErrFull)
	if all(d) != before {
		t.Error("Open of the last epoch wrote")
	}
	d.Fuse(0)
	noOpen(t, d, 0, 4, api.ErrDown)
}

func TestP15AppendErrors(t *testing.T) {
	d := newDisk(t, 9)
	l := mustOpen(t, d, 1, 7, 6)
	before := all(d)
	for _, n := range []int{301, 302, 4096, 4097, 70000} {
		wantErr(t, "Append of too much", l.Append(rising(n)), api.ErrLarge)
	}
	wantErr(t, "Append", l.Append("a"), api.OK)
	wantErr(t, "Append of all there is", l.Append(rising(300)), api.ErrFull)
	wantErr(t, "Append of 5 sectors", l.Append(rising(299)), api.OK)
	wantRoom(t, l, 0)
	full := all(d)
	if full[:2*64] != before[:2*64] || full[8*64:] != before[8*64:] {
		t.Error("Append wrote to what is not its own")
	}
	wantErr(t, "Append to a full log", l.Append(""), api.ErrFull)
	wantErr(t, "Append of too much to a full log", l.Append(rising(301)), api.ErrLarge)
	if all(d) != full {
		t.Error("an Append without room wrote")
	}
	wantErr(t, "Sync", l.Sync(), api.OK)
	mustOpen(t, d, 1, 7, 0, "a", rising(299))
}

// How many sectors a record needs hangs on its epoch and its number.
func TestP15FullByEpochAndNumber(t *testing.T) {
	for _, is := range []struct{ epoch, number, most int }{
		{1, 0, 56}, {63, 0, 56}, {64, 0, 55}, {8191, 0, 55}, {8192, 0, 54}, {maxEpoch, 0, 54},
		{1, 63, 56}, {1, 64, 55}, {64, 63, 55}, {64, 64, 54}, {8192, 64, 53},
	} {
		d := newDisk(t, 80)
		lay(t, d, 0, anchorOf(is.epoch-1))
		l := mustOpen(t, d, 0, is.number+2, is.number+1)
		for range is.number {
			l.Append("")
		}
		wantErr(t, fmt.Sprint("too long ", is), l.Append(rising(is.most+1)), api.ErrFull)
		wantRoom(t, l, 1)
		wantErr(t, fmt.Sprint("long ", is), l.Append(rising(is.most)), api.OK)
		wantRoom(t, l, 0)
	}
}

func TestP15SyncMakesSafe(t *testing.T) {
	d := newDisk(t, 12)
	l := mustOpen(t, d, 0, 12, 11)
	wantErr(t, "Sync of nothing", l.Sync(), api.OK)
	l.Append("a")
	l.Append(rising(90))
	wantErr(t, "Sync", l.Sync(), api.OK)
	l.Append("c")
	d.Crash(nil)
	l = mustOpen(t, d, 0, 12, 8, "a", rising(90))
	l.Append("d")
	d.Crash(nil)
	mustOpen(t, d, 0, 12, 8, "a", rising(90))
}

// What a crash kept of later records is not told where an earlier one is lost; nor is it later on.
func TestP15LostRecordsStayLost(t *testing.T) {
	d := newDisk(t, 12)
	l := mustOpen(t, d, 0, 12, 11)
	l.Append("a")
	l.Append("b")
	l.Append("c")
	d.Crash([]bool{true, false, true})
	l = mustOpen(t, d, 0, 12, 10, "a")
	l.Append("B")
	l.Sync()
	l = mustOpen(t, d, 0, 12, 9, "a", "B")
	l.Append("C")
	l.Sync()
	mustOpen(t, d, 0, 12, 8, "a", "B", "C")
}

func TestP15AppendWritesInOrder(t *testing.T) {
	text := rising(300)
	for n := range 6 {
		d := newDisk(t, 8)
		l := mustOpen(t, d, 0, 8, 7)
		d.Fuse(n)
		wantErr(t, "Append", l.Append(text), api.ErrDown)
		wantRoom(t, l, 7)
		d.Fuse(-1)
		wantSectors(t, d, 1, recordOf(1, 0, text)[:n]...)
		wantSectors(t, d, 1+n, make([]string, 7-n)...)
		wantErr(t, "Append behind an error", l.Append("b"), api.ErrState)
		d.Crash(slices.Repeat([]bool{true}, 9))
		mustOpen(t, d, 0, 8, 7)
	}
}

// stateAll holds a log to ErrState of all its calls, whatever they are given.
func stateAll(t *testing.T, d *sect.Disk, l *Log, room int) {
	t.Helper()
	before := all(d)
	for range 2 {
		wantErr(t, "Append", l.Append("b"), api.ErrState)
		wantErr(t, "Append of too much", l.Append(rising(301)), api.ErrState)
		wantErr(t, "Append of more than there is", l.Append(rising(300)), api.ErrState)
		wantErr(t, "Sync", l.Sync(), api.ErrState)
		wantErr(t, "Reset", l.Reset("b"), api.ErrState)
		wantErr(t, "Reset to too much", l.Reset(rising(301)), api.ErrState)
		wantErr(t, "Reset to too many sectors", l.Reset(rising(300)), api.ErrState)
		wantRoom(t, l, room)
	}
	if all(d) != before {
		t.Error("a log with an error wrote")
	}
}

func TestP15ErrState(t *testing.T) {
	calls := []struct {
		what  string
		do    func(l *Log) api.Errno
		steps int
	}{
		{"Append", func(l *Log) api.Errno { return l.Append(rising(70)) }, 2},
		{"Sync", func(l *Log) api.Errno { return l.Sync() }, 1},
		{"Reset", func(l *Log) api.Errno { return l.Reset("new") }, 4},
	}
	for _, call := range calls {
		for n := range call.steps {
			d := newDisk(t, 6)
			l := mustOpen(t, d, 0, 6, 5)
			l.Append("a")
			d.Fuse(n)
			wantErr(t, call.what, call.do(l), api.ErrDown)
			d.Fuse(-1)
			stateAll(t, d, l, 4)
			d.Crash(nil)
			stateAll(t, d, l, 4)
		}
		d := newDisk(t, 6)
		l := mustOpen(t, d, 0, 6, 5)
		d.Fuse(call.steps)
		wantErr(t, call.what, call.do(l), api.OK)
		wantErr(t, "one more", d.Flush(), api.ErrDown)
	}
}

// Errors that are not the disk's leave the log as it was.
func TestP15OtherErrorsChangeNothing(t *testing.T) {
	d := newDisk(t, 4)
	lay(t, d, 0, anchorOf(maxEpoch-1))
	l := mustOpen(t, d, 0, 4, 3)
	wantErr(t, "Append", l.Append("a"), api.OK)
	before := all(d)
	wantErr(t, "Append of too much", l.Append(rising(301)), api.ErrLarge)
	wantErr(t, "Append of more than there is", l.Append(rising(300)), api.ErrFull)
	wantErr(t, "Reset to too much", l.Reset(rising(301)), api.ErrLarge)
	wantErr(t, "Reset to two sectors", l.Reset(rising(57)), api.ErrFull)
	wantErr(t, "Reset of the last epoch", l.Reset("b"), api.ErrFull)
	if all(d) != before {
		t.Error("calls that told an error wrote")
	}
	wantRoom(t, l, 2)
	wantErr(t, "Append", l.Append("b"), api.OK)
	wantErr(t, "Sync", l.Sync(), api.OK)
	wantSectors(t, d, 2, recordOf(maxEpoch, 1, "b")...)
}

// While the disk is down the log's own errors come first, and are no error of the disk's.
func TestP15OwnErrorsAheadOfTheDisks(t *testing.T) {
	d := newDisk(t, 3)
	l := mustOpen(t, d, 0, 3, 2)
	d.Fuse(0)
	wantErr(t, "Append of too much", l.Append(rising(301)), api.ErrLarge)
	wantErr(t, "Append of more than there is", l.Append(rising(300)), api.ErrFull)
	wantErr(t, "Reset to too much", l.Reset(rising(301)), api.ErrLarge)
	wantErr(t, "Reset to two sectors", l.Reset(rising(57)), api.ErrFull)
	d.Fuse(-1)
	wantErr(t, "Append", l.Append("a"), api.OK)
	wantErr(t, "Sync", l.Sync(), api.OK)
}

// An error in one log is none of another one on the same disk.
func TestP15TwoLogs(t *testing.T) {
	d := newDisk(t, 10)
	one := mustOpen(t, d, 0, 5, 4)
	two := mustOpen(t, d, 5, 5, 4)
	for i := range 4 {
		wantErr(t, "Append", one.Append(fmt.Sprint("one ", i)), api.OK)
		wantErr(t, "Append", two.Append(fmt.Sprint("two ", i)), api.OK)
	}
	wantErr(t, "Sync", two.Sync(), api.OK)
	d.Fuse(0)
	wantErr(t, "Sync", one.Sync(), api.ErrDown)
	d.Fuse(-1)
	wantErr(t, "Sync", one.Sync(), api.ErrState)
	wantErr(t, "Sync", two.Sync(), api.OK)
	d.Crash(nil)
	mustOpen(t, d, 0, 5, 0, "one 0", "one 1", "one 2", "one 3")
	mustOpen(t, d, 5, 5, 0, "two 0", "two 1", "two 2", "two 3")
}

func TestP16Reset(t *testing.T) {
	for _, texts := range [][]string{nil, {"a"}, {"a", "b", "c", "d", "e"}, {rising(300)}} {
		d := newDisk(t, 8)
		l := mustOpen(t, d, 1, 7, 6)
		for _, text := range texts {
			l.Append(text)
		}
		wantErr(t, "Reset", l.Reset("new"), api.OK)
		wantRoom(t, l, 5)
		wantSectors(t, d, 1, anchorOf(2))
		wantSectors(t, d, 2, recordOf(2, 0, "new")...)
		d.Crash(nil)
		l = mustOpen(t, d, 1, 7, 5, "new")
		wantErr(t, "Append", l.Append("x"), api.OK)
		wantSectors(t, d, 3, recordOf(3, 1, "x")...)
		wantErr(t, "Reset", l.Reset(""), api.OK)
		wantErr(t, "Append", l.Append("y"), api.OK)
		wantSectors(t, d, 2, recordOf(4, 0, "")...)
		wantSectors(t, d, 3, recordOf(4, 1, "y")...)
		wantRoom(t, l, 4)
		mustOpen(t, d, 1, 7, 4, "", "y")
	}
}

// The record is of the next epoch, and has to fit with that.
func TestP16OneSector(t *testing.T) {
	for _, is := range []struct{ epoch, most int }{
		{1, 56}, {62, 56}, {63, 55}, {64, 55}, {8190, 55}, {8191, 54}, {8192, 54}, {maxEpoch - 1, 54},
	} {
		d := newDisk(t, 5)
		lay(t, d, 0, anchorOf(is.epoch-1))
		l := mustOpen(t, d, 0, 5, 4)
		for _, n := range []int{is.most + 1, 100, 300} {
			wantErr(t, fmt.Sprint("two sectors at epoch ", is.epoch), l.Reset(rising(n)), api.ErrFull)
		}
		for _, n := range []int{301, 302, 4096, 4097, 70000} {
			wantErr(t, "Reset to too much", l.Reset(rising(n)), api.ErrLarge)
		}
		wantSectors(t, d, 0, anchorOf(is.epoch))
		wantErr(t, fmt.Sprint("one sector at epoch ", is.epoch), l.Reset(rising(is.most)), api.OK)
		wantSectors(t, d, 0, anchorOf(is.epoch+1))
		wantRoom(t, l, 3)
	}
	d := newDisk(t, 2)
	l := mustOpen(t, d, 0, 2, 1)
	wantErr(t, "Append", l.Append("a"), api.OK)
	wantErr(t, "Reset of the least log", l.Reset(rising(56)), api.OK)
	wantRoom(t, l, 0)
	mustOpen(t, d, 0, 2, 0, rising(56))
}

// A Reset that the disk ends leaves what was, until its record is written.
func TestP16ResetStepByStep(t *testing.T) {
	was, new := []string{"a", rising(90), "c"}, []string{"new"}
	for _, is := range []struct {
		fuse   int
		keep   bool
		err    api.Errno
		anchor int
		texts  []string
		room   int
	}{
		{0, false, api.ErrDown, 1, was, 2},
		{0, true, api.ErrDown, 1, was, 2},
		{1, false, api.ErrDown, 1, was, 2},
		{1, true, api.ErrDown, 2, was, 2},
		{2, false, api.ErrDown, 2, was, 2},
		{2, true, api.ErrDown, 2, was, 2},
		{3, false, api.ErrDown, 2, was, 2},
		{3, true, api.ErrDown, 2, new, 5},
		{4, false, api.OK, 2, new, 5},
		{4, true, api.OK, 2, new, 5},
	} {
		d := newDisk(t, 7)
		l := mustOpen(t, d, 0, 7, 6)
		for _, text := range was {
			l.Append(text)
		}
		l.Sync()
		d.Fuse(is.fuse)
		wantErr(t, fmt.Sprint("Reset with a fuse of ", is.fuse), l.Reset("new"), is.err)
		d.Crash([]bool{is.keep})
		wantSectors(t, d, 0, anchorOf(is.anchor))
		mustOpen(t, d, 0, 7, is.room, is.texts...)
	}
}

func TestP16Room(t *testing.T) {
	d := newDisk(t, 256)
	l := mustOpen(t, d, 0, 256, 255)
	for i := range 255 {
		wantRoom(t, l, 255-i)
		wantErr(t, "Append", l.Append("x"), api.OK)
	}
	wantRoom(t, l, 0)
	wantErr(t, "Append", l.Append(""), api.ErrFull)
	mustOpen(t, d, 0, 256, 0, slices.Repeat([]string{"x"}, 255)...)
	wantErr(t, "Reset", l.Reset(""), api.OK)
	wantRoom(t, l, 254)
}

// falls is a log with what may be told of it, whatever falls.
type falls struct {
	d *sect.Disk
	l *Log
	// told is what was appended, the first safe ones of which are safe; reset
	// is the text of a Reset that was under way.
	told    []string
	safe    int
	reset   string
	resetOn bool
}

func (f *falls) step(r *rand.Rand, serial int) {
	text := fmt.Sprint(serial, rising(r.Intn(9)*r.Intn(26)))
	switch r.Intn(10) {
	default:
		if f.l.Append(text) == api.OK {
			f.told = append(f.told, text)
		}
	case 0, 1:
		if f.l.Sync() == api.OK {
			f.safe = len(f.told)
		}
	case 2:
		text := fmt.Sprint("reset ", serial)
		switch err := f.l.Reset(text); err {
		case api.OK:
			f.told, f.safe = []string{text}, 1
		case api.ErrDown:
			f.reset, f.resetOn = text, true
		}
	}
}

// open holds Open to what may be told, and goes on from there.
func (f *falls) open(t *testing.T, n int) {
	t.Helper()
	l, told, err := Open(f.d, 1, n)
	if err != api.OK {
		t.Fatalf("Open: %d", err)
	}
	begins := len(told) >= f.safe && len(told) <= len(f.told) && slices.Equal(told, f.told[:len(told)])
	isReset := f.resetOn && slices.Equal(told, []string{f.reset})
	if !begins && !isReset {
		t.Fatalf("Open tells %q of %q (%d safe, reset %q)", told, f.told, f.safe, f.reset)
	}
	f.l, f.told, f.safe, f.resetOn = l, told, len(told), false
}

// The seed is fixed: each run of the test is the same one.
func TestP16WhateverFalls(t *testing.T) {
	r := rand.New(rand.NewSource(4))
	var lost, kept, resets int
	for range 400 {
		n := 4 + r.Intn(22)
		f := &falls{d: newDisk(t, n+2)}
		f.open(t, n)
		serial := 0
		for range 12 {
			if r.Intn(3) > 0 {
				f.d.Fuse(r.Intn(25))
			}
			for range r.Intn(12) {
				f.step(r, serial)
				serial++
			}
			had, safe, on := len(f.told), f.safe, f.resetOn
			if r.Intn(8) > 0 {
				f.d.Crash(someBools(r, 40))
			} else {
				f.d.Fuse(-1)
			}
			f.open(t, n)
			switch {
			case on && len(f.told) == 1 && strings.HasPrefix(f.told[0], "reset"):
				resets++
			case len(f.told) < had:
				lost++
			case len(f.told) > safe:
				kept++
			}
		}
	}
	if lost < 50 || kept < 50 || resets < 20 {
		t.Errorf("too little fell: %d lost, %d kept, %d resets", lost, kept, resets)
	}
}

func someBools(r *rand.Rand, n int) []bool {
	l := make([]bool, n)
	often := 1 + r.Intn(9)
	for i := range l {
		l[i] = r.Intn(10) < often
	}
	return l
}

// Every fuse and every choice of what is kept of a script with all the calls.
func TestP16EachFuseAndEachCrash(t *testing.T) {
	long := rising(70)
	for n := range 15 {
		for bits := range 1 << 6 {
			d := newDisk(t, 9)
			l := mustOpen(t, d, 0, 9, 8)
			l.Append("a")
			l.Append(long)
			l.Sync()
			d.Fuse(n)
			told, safe, reset := []string{"a", long}, 2, false
			for _, text := range []string{"b", long, "c"} {
				if l.Append(text) == api.OK {
					told = append(told, text)
				}
			}
			if l.Sync() == api.OK {
				safe = len(told)
			}
			switch l.Reset("new") {
			case api.OK:
				told, safe = []string{"new"}, 1
			case api.ErrDown:
				reset = true
			}
			for _, text := range []string{"d", "e", long} {
				if l.Append(text) == api.OK {
					told = append(told, text)
				}
			}
			keep := make([]bool, 6)
			for i := range keep {
				keep[i] = bits>>i%2 == 1
			}
			d.Crash(keep)
			_, s, err := Open(d, 0, 9)
			begins := len(s) >= safe && len(s) <= len(told) && slices.Equal(s, told[:len(s)])
			if err != api.OK || !begins && !(reset && slices.Equal(s, []string{"new"})) {
				t.Fatalf("Fuse(%d), keep %v: %q %d of %q, %d safe", n, keep, s, err, told, safe)
			}
		}
	}
}

// readWords reads a record as the chapter's words have it, one condition behind another.
func readWords(sectors []string, number, ahead, anchor int) (text string, epoch, size int, ok bool) {
	for epoch = ahead; epoch <= anchor; epoch++ {
		for n := range 301 {
			for size = 1; size <= min(7, len(sectors)); size++ {
				bytes := ""
				right := true
				for i, s := range sectors[:size] {
					mark := "\x02"
					if i == 0 {
						mark = "\x01"
					}
					rest, has := strings.CutPrefix(s, mark+integer(epoch)+integer(number))
					right = right && has
					bytes += rest
				}
				length := nat(uint64(n))
				end := len(length) + n + 4
				head := len(integer(epoch)) + len(integer(number)) + 1
				asked := (end + 63 - head) / (64 - head)
				if right && asked == size && strings.HasPrefix(bytes, length) && summed(bytes[:end-4]) == bytes[:end] {
					return bytes[len(length) : end-4], epoch, size, true
				}
			}
		}
	}
	return "", 0, 0, false
}

// Sectors of records are strewn about, some with a byte changed. The seed is fixed.
func TestP14AgainstTheWords(t *testing.T) {
	r := rand.New(rand.NewSource(5))
	most := 0
	for range 400 {
		const anchor = 3
		d := newDisk(t, 10)
		lay(t, d, 0, anchorOf(anchor))
		epoch, number := 0, 0
		for at := 1; at < 10; {
			sectors := recordOf(epoch, number, rising(r.Intn(3)*r.Intn(151)))
			sectors = sectors[:min(len(sectors), 10-at)]
			if r.Intn(6) == 0 {
				i := r.Intn(len(sectors))
				b := []byte(sectors[i])
				b[r.Intn(12)] = byte(r.Intn(6))
				sectors[i] = string(b)
			}
			lay(t, d, at, sectors...)
			at += len(sectors)
			number++
			if r.Intn(8) == 0 {
				number = r.Intn(4)
			}
			epoch = min(epoch+r.Intn(2), 3+r.Intn(2))
			if r.Intn(8) == 0 {
				epoch = r.Intn(5)
			}
		}
		var sectors, want []string
		for at := 1; at < 10; at++ {
			s, _ := d.Read(at)
			sectors = append(sectors, s)
		}
		ahead := 0
		for {
			text, e, size, ok := readWords(sectors, len(want), ahead, anchor)
			if !ok {
				break
			}
			want, sectors, ahead = append(want, text), sectors[size:], e
		}
		mustOpen(t, d, 0, 10, len(sectors), want...)
		most = max(most, len(want))
	}
	if most < 5 {
		t.Errorf("at most %d records were found", most)
	}
}

func TestP1NoCallPanics(t *testing.T) {
	r := rand.New(rand.NewSource(6))
	for range 2000 {
		d := newDisk(t, 1+r.Intn(8))
		for at := range d.Len() {
			b := make([]byte, 64)
			for i := range b {
				b[i] = byte(r.Intn(1 + r.Intn(256)))
			}
			d.Write(at, string(b[:r.Intn(65)]))
		}
		if r.Intn(2) == 0 {
			d.Write(0, anchorOf(r.Intn(9)))
		}
		d.Fuse(r.Intn(9) - 2)
		l, _, err := Open(d, r.Intn(3)-1, r.Intn(10)-1)
		if err != api.OK {
			continue
		}
		l.Append(rising(r.Intn(400)))
		l.Reset(rising(r.Intn(90)))
		l.Sync()
		l.Room()
	}
}

// A Log that Open did not make has no disk, and no room.
func TestP1EmptyLog(t *testing.T) {
	l := new(Log)
	wantErr(t, "Append", l.Append("a"), api.ErrState)
	wantErr(t, "Sync", l.Sync(), api.ErrState)
	wantErr(t, "Reset", l.Reset("a"), api.ErrState)
	wantRoom(t, l, 0)
}

func overlap(a, b string) bool {
	if a == "" || b == "" {
		return false
	}
	x, y := uintptr(unsafe.Pointer(unsafe.StringData(a))), uintptr(unsafe.Pointer(unsafe.StringData(b)))
	return x < y+uintptr(len(b)) && y < x+uintptr(len(a))
}

func TestP2AnswersAreNewMemory(t *testing.T) {
	d := newDisk(t, 20)
	given := []string{"a", rising(40), rising(300), "b"}
	l := mustOpen(t, d, 0, 20, 19)
	for _, text := range given {
		l.Append(text)
	}
	_, one, _ := Open(d, 0, 20)
	_, two, _ := Open(d, 0, 20)
	for i, text := range slices.Concat(one, two) {
		for k, other := range slices.Concat(one, two, given) {
			if i != k && overlap(text, other) {
				t.Errorf("texts %d and %d share memory", i, k)
			}
		}
	}
	one = one[:cap(one)]
	for i := range one {
		one[i] = "?"
	}
	mustOpen(t, d, 0, 20, 10, given...)
	if !slices.Equal(two, given) {
		t.Errorf("an earlier answer is %q now", two)
	}
}

// A text is copied: what it was made of may be changed.
func TestP2NothingIsKept(t *testing.T) {
	d := newDisk(t, 20)
	l := mustOpen(t, d, 0, 20, 19)
	b := []byte("first")
	wantErr(t, "Reset", l.Reset(unsafe.String(&b[0], len(b))), api.OK)
	long := []byte(rising(200))
	wantErr(t, "Append", l.Append(unsafe.String(&long[0], len(long))), api.OK)
	if string(b) != "first" || string(long) != rising(200) {
		t.Error("what was handed in is changed")
	}
	clear(b)
	clear(long)
	mustOpen(t, d, 0, 20, 14, "first", rising(200))
}

// Logs of disks of their own are used at one time.
func TestP2LogsAtOneTime(t *testing.T) {
	var group sync.WaitGroup
	for k := range 8 {
		group.Go(func() {
			d, _ := sect.New(20)
			for i := range 15 {
				l, s, err := Open(d, 0, 20)
				if err != api.OK || len(s) != i {
					t.Errorf("Open: %q %d", s, err)
					return
				}
				l.Append(fmt.Sprint(k, i))
			}
		})
	}
	group.Wait()
}
