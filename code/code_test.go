package code

import (
	"encoding/binary"
	"math"
	"strings"
	"sync"
	"testing"
	"unsafe"

	"quirestock/api"
)

// edgeNats are the numbers at which the count of bytes changes, and their neighbours.
func edgeNats() []uint64 {
	l := []uint64{0, 1, 2, 300, 4095, 4096, 4097, math.MaxUint64 - 1, math.MaxUint64}
	for k := range 64 {
		p := uint64(1) << k
		l = append(l, p-1, p, p+1)
	}
	return l
}

// strangeTexts are all texts of at most two bytes, and longer ones that bear on the tenth byte and beyond.
func strangeTexts() []string {
	l := []string{""}
	for a := range 256 {
		l = append(l, string([]byte{byte(a)}))
		for b := range 256 {
			l = append(l, string([]byte{byte(a), byte(b)}))
		}
	}
	for _, fill := range []string{"\x80", "\xff", "\x81", "\xaa"} {
		for k := range 14 {
			front := strings.Repeat(fill, k)
			for b := range 256 {
				l = append(l, front+string([]byte{byte(b)}), front+string([]byte{byte(b)})+"z")
			}
		}
	}
	return append(l, strings.Repeat("\xff", 10000), strings.Repeat("\x00", 10000))
}

// wantNat leans on the library's own reading, which lets longer forms pass.
func wantNat(s string) (uint64, int, api.Errno) {
	n, took := binary.Uvarint([]byte(s))
	switch {
	case took == 0 && len(s) < 10:
		return 0, 0, api.ErrShort
	case took <= 0:
		return 0, 0, api.ErrLarge
	case took > 1 && s[took-1] == 0:
		return 0, 0, api.ErrForm
	}
	return n, took, api.OK
}

func TestP3PutNat(t *testing.T) {
	for _, c := range []struct {
		n    uint64
		want string
	}{
		{0, "\x00"}, {1, "\x01"}, {127, "\x7f"}, {128, "\x80\x01"}, {255, "\xff\x01"}, {300, "\xac\x02"},
		{16383, "\xff\x7f"}, {16384, "\x80\x80\x01"},
		{1<<63 - 1, "\xff\xff\xff\xff\xff\xff\xff\xff\x7f"},
		{1 << 63, "\x80\x80\x80\x80\x80\x80\x80\x80\x80\x01"},
		{math.MaxUint64, "\xff\xff\xff\xff\xff\xff\xff\xff\xff\x01"},
	} {
		if s := PutNat(c.n); s != c.want {
			t.Errorf("PutNat(%d) = %x, want %x", c.n, s, c.want)
		}
	}
	for _, n := range edgeNats() {
		want := string(binary.AppendUvarint(nil, n))
		if s := PutNat(n); s != want {
			t.Errorf("PutNat(%d) = %x, want %x", n, s, want)
		}
	}
}

func TestP3GetNatTurnsBack(t *testing.T) {
	for _, n := range edgeNats() {
		s := PutNat(n)
		for _, behind := range []string{"", "\x00", "\x80", "z", s} {
			m, took, err := GetNat(s + behind)
			if m != n || took != len(s) || err != api.OK {
				t.Errorf("GetNat(%x) = %d %d %d, want %d", s+behind, m, took, err, n)
			}
		}
		for k := range len(s) {
			m, took, err := GetNat(s[:k])
			if m != 0 || took != 0 || err != api.ErrShort {
				t.Errorf("GetNat(%x) = %d %d %d, want ErrShort", s[:k], m, took, err)
			}
		}
	}
}

func TestP3GetNatErrors(t *testing.T) {
	nine := strings.Repeat("\x80", 9)
	for _, c := range []struct {
		s    string
		want api.Errno
	}{
		{"", api.ErrShort}, {"\x80", api.ErrShort}, {nine, api.ErrShort},
		{"\x80\x00", api.ErrForm}, {"\xff\x00", api.ErrForm}, {"\x80\x80\x00z", api.ErrForm}, {nine + "\x00", api.ErrForm},
		{nine + "\x02", api.ErrLarge}, {nine + "\x7f", api.ErrLarge}, {nine + "\x80", api.ErrLarge},
		{nine + "\x81\x00", api.ErrLarge}, {nine + "\xff", api.ErrLarge},
	} {
		n, took, err := GetNat(c.s)
		if n != 0 || took != 0 || err != c.want {
			t.Errorf("GetNat(%x) = %d %d %d, want %d", c.s, n, took, err, c.want)
		}
	}
}

func TestP3GetNatOfAnyText(t *testing.T) {
	for _, s := range strangeTexts() {
		n, took, err := GetNat(s)
		wantN, wantTook, wantErr := wantNat(s)
		if n != wantN || took != wantTook || err != wantErr {
			t.Fatalf("GetNat(%.20x) = %d %d %d, want %d %d %d", s, n, took, err, wantN, wantTook, wantErr)
		}
	}
}

func TestP4PutInt(t *testing.T) {
	for _, c := range []struct {
		n    int
		want uint64
	}{
		{0, 0}, {-1, 1}, {1, 2}, {-2, 3}, {2, 4}, {-3, 5}, {63, 126}, {-64, 127}, {64, 128}, {-65, 129},
		{math.MaxInt, math.MaxUint64 - 1}, {math.MinInt + 1, math.MaxUint64 - 2}, {math.MinInt, math.MaxUint64},
	} {
		s := PutInt(c.n)
		if s != PutNat(c.want) {
			t.Errorf("PutInt(%d) = %x, want %x", c.n, s, PutNat(c.want))
		}
		n, took, err := GetInt(s + "\x80")
		if n != c.n || took != len(s) || err != api.OK {
			t.Errorf("GetInt(%x) = %d %d %d, want %d", s, n, took, err, c.n)
		}
	}
}

func TestP4GetIntOfAnyText(t *testing.T) {
	for _, s := range strangeTexts() {
		n, took, err := GetInt(s)
		m, wantTook, wantErr := wantNat(s)
		want := int(m >> 1)
		if m&1 == 1 {
			want = ^want
		}
		if n != want || took != wantTook || err != wantErr {
			t.Fatalf("GetInt(%.20x) = %d %d %d, want %d %d %d", s, n, took, err, want, wantTook, wantErr)
		}
	}
}

func TestP5PutText(t *testing.T) {
	for _, n := range []int{0, 1, 127, 128, 4095, api.MaxText} {
		text := strings.Repeat("\xff\x00b", n)[:n]
		s, err := PutText(text)
		if s != PutNat(uint64(n))+text || err != api.OK {
			t.Errorf("PutText of %d bytes: %d bytes, %d", n, len(s), err)
		}
		for _, behind := range []string{"", "z", s} {
			back, took, err := GetText(s + behind)
			if back != text || took != len(s) || err != api.OK {
				t.Errorf("GetText of %d bytes: %d bytes, took %d, %d", n, len(back), took, err)
			}
		}
	}
	for _, n := range []int{api.MaxText + 1, 100000} {
		if s, err := PutText(strings.Repeat("a", n)); s != "" || err != api.ErrLarge {
			t.Errorf("PutText of %d bytes: %d bytes, %d", n, len(s), err)
		}
	}
}

func TestP5GetTextErrors(t *testing.T) {
	for _, c := range []struct {
		s    string
		want api.Errno
	}{
		{"", api.ErrShort}, {"\x80", api.ErrShort}, {"\x81\x00a", api.ErrForm}, {strings.Repeat("\xff", 10), api.ErrLarge},
		{"\x01", api.ErrShort}, {"\x03ab", api.ErrShort},
		{PutNat(api.MaxText) + strings.Repeat("a", api.MaxText-1), api.ErrShort},
		{PutNat(api.MaxText + 1), api.ErrLarge},
		{PutNat(api.MaxText+1) + strings.Repeat("a", api.MaxText+1), api.ErrLarge},
		{PutNat(1<<31) + "a", api.ErrLarge}, {PutNat(1<<32+1) + "a", api.ErrLarge},
		{PutNat(1<<63) + "a", api.ErrLarge}, {PutNat(math.MaxUint64) + "a", api.ErrLarge},
	} {
		text, took, err := GetText(c.s)
		if text != "" || took != 0 || err != c.want {
			t.Errorf("GetText(%.20x) = %d bytes, took %d, %d, want %d", c.s, len(text), took, err, c.want)
		}
	}
}

func TestP5GetTextOfAnyText(t *testing.T) {
	for _, s := range strangeTexts() {
		text, took, err := GetText(s)
		n, front, want := wantNat(s)
		switch {
		case want != api.OK:
		case n > api.MaxText:
			want = api.ErrLarge
		case uint64(len(s)-front) < n:
			want = api.ErrShort
		}
		if err != want {
			t.Fatalf("GetText(%.20x): %d, want %d", s, err, want)
		}
		if err != api.OK && (text != "" || took != 0) {
			t.Fatalf("GetText(%.20x): %q and %d beside an error", s, text, took)
		}
		if err == api.OK && (took != front+int(n) || text != s[front:took]) {
			t.Fatalf("GetText(%.20x): %q, took %d", s, text, took)
		}
	}
}

func TestP1NoCallPanics(t *testing.T) {
	defer func() {
		if r := recover(); r != nil {
			t.Error("panic:", r)
		}
	}()
	for _, s := range append(strangeTexts(), strings.Repeat("a", 1<<20)) {
		GetNat(s)
		GetInt(s)
		GetText(s)
		PutText(s)
	}
	for _, n := range edgeNats() {
		PutNat(n)
		PutInt(int(n))
	}
}

// overlap tells whether two texts have a byte of memory in common.
func overlap(a, b string) bool {
	if a == "" || b == "" {
		return false
	}
	fromA, fromB := uintptr(unsafe.Pointer(unsafe.StringData(a))), uintptr(unsafe.Pointer(unsafe.StringData(b)))
	return fromA < fromB+uintptr(len(b)) && fromB < fromA+uintptr(len(a))
}

func TestP2AnswersAreNewMemory(t *testing.T) {
	for _, n := range []int{0, 1, 2, 40, api.MaxText} {
		text := strings.Repeat("a", n)
		put, _ := PutText(text)
		if overlap(put, text) {
			t.Errorf("PutText of %d bytes shares memory with its argument", n)
		}
		got, _, _ := GetText(put)
		if overlap(got, put) {
			t.Errorf("GetText of %d bytes shares memory with its argument", n)
		}
	}
}

func TestP2NothingIsChangedOrKept(t *testing.T) {
	line := []byte("\x05abcde\xac\x02")
	s := string(line)
	for range 3 {
		text, took, err := GetText(s)
		if text != "abcde" || took != 6 || err != api.OK || s != string(line) {
			t.Fatalf("GetText: %q %d %d, argument %q", text, took, err, s)
		}
		n, took, err := GetNat(s[6:])
		if n != 300 || took != 2 || err != api.OK || s != string(line) {
			t.Fatalf("GetNat: %d %d %d, argument %q", n, took, err, s)
		}
		GetNat("\x80")
		GetText("\x7fa")
		PutText(strings.Repeat("b", api.MaxText+1))
	}
}

func TestP2CallsAtOneTime(t *testing.T) {
	var all sync.WaitGroup
	for hand := range 4 {
		all.Go(func() {
			for k := range 2000 {
				n := k*7919 + hand
				if back, _, err := GetInt(PutInt(-n)); back != -n || err != api.OK {
					t.Errorf("%d came back as %d, %d", -n, back, err)
				}
			}
		})
	}
	all.Wait()
}
