package fold

import (
	"encoding/binary"
	"hash/adler32"
	"math"
	"strings"
	"sync"
	"testing"
	"unsafe"

	"quirestock/api"
)

// someTexts differ in length and in bytes; the longest ones go round 65521 many times.
func someTexts() []string {
	l := []string{"", "a", "b", "ab", "ba", "abc", "Wiki", "pedia", "Wikipedia", "\x00", "\x00\x00", "\xff", "é"}
	for _, n := range []int{5, 255, 256, 257, 512, 4095, api.MaxText} {
		l = append(l, strings.Repeat("\xff", n), strings.Repeat("\x00", n), strings.Repeat("quire\x80\xff", n)[:n])
	}
	return l
}

// longTexts are longer than what Put takes.
func longTexts() []string {
	return []string{
		strings.Repeat("a", api.MaxText+1), strings.Repeat("\xff", 5552), strings.Repeat("\xff", 5553),
		strings.Repeat("\xff", 65521), strings.Repeat("\xff", 1<<20), strings.Repeat("\x00", 65521),
	}
}

func TestP6Sum(t *testing.T) {
	for _, c := range []struct {
		s    string
		want uint32
	}{
		{"", 1}, {"\x00", 0x00010001}, {"\x00\x00", 0x00020001}, {"a", 0x00620062}, {"ab", 0x012600c4},
		{"abc", 0x024d0127}, {"\xff", 0x01000100}, {"Wikipedia", 0x11e60398},
	} {
		if n := Sum(c.s); n != c.want {
			t.Errorf("Sum(%q) = %08x, want %08x", c.s, n, c.want)
		}
	}
	for _, s := range append(someTexts(), longTexts()...) {
		if n, want := Sum(s), adler32.Checksum([]byte(s)); n != want {
			t.Errorf("Sum(%.20q) of %d bytes = %08x, want %08x", s, len(s), n, want)
		}
	}
}

// Behind 256 bytes of 255 a is 65281: 239 more are 65520, the greatest that a may be.
func TestP6SumAtTheTurn(t *testing.T) {
	front := strings.Repeat("\xff", 256)
	for _, c := range []struct {
		last byte
		a    uint32
	}{{238, 65519}, {239, 65520}, {240, 0}, {241, 1}, {255, 15}} {
		if a := Sum(front+string([]byte{c.last})) % 65536; a != c.a {
			t.Errorf("a behind the byte %d is %d, want %d", c.last, a, c.a)
		}
	}
	if n := Sum(strings.Repeat("\x00", 65520)); n != 65520*65536+1 {
		t.Errorf("b of 65520 bytes 0: %08x", n)
	}
	if n := Sum(strings.Repeat("\x00", 65521)); n != 1 {
		t.Errorf("b of 65521 bytes 0: %08x", n)
	}
}

func TestP6OneOrTwoOtherBytesAreAnotherSum(t *testing.T) {
	s := []byte(strings.Repeat("qu\x00\xffire", 100)[:api.MaxText/16])
	sum := Sum(string(s))
	for i := range s {
		for _, d := range []byte{1, 2, 127, 128, 254, 255} {
			s[i] += d
			if Sum(string(s)) == sum {
				t.Fatalf("byte %d more at place %d: the same sum", d, i)
			}
			// To take away as much elsewhere leaves a as it was.
			for j := i + 1; j < len(s); j += 31 {
				s[j] -= d
				if Sum(string(s)) == sum {
					t.Fatalf("byte %d more at place %d, less at %d: the same sum", d, i, j)
				}
				s[j] += d
			}
			s[i] -= d
		}
	}
}

func TestP7JoinIsTheSumOfBoth(t *testing.T) {
	for _, s := range append(someTexts(), longTexts()...) {
		for _, u := range someTexts() {
			n, err := Join(Sum(s), Sum(u), len(u))
			if want := adler32.Checksum([]byte(s + u)); n != want || err != api.OK {
				t.Errorf("Join of %d and %d bytes = %08x %d, want %08x", len(s), len(u), n, err, want)
			}
		}
	}
}

// wantJoin reckons as P7 says it, in numbers that have room for all of it.
func wantJoin(x, y uint32, n int) (uint32, api.Errno) {
	const m = 65521
	ax, bx, ay, by := int64(x%65536), int64(x/65536), int64(y%65536), int64(y/65536)
	if n < 0 || n > 4096 || ax >= m || bx >= m || ay >= m || by >= m {
		return 0, api.ErrArg
	}
	f := ax - 1
	a := ((f+ay)%m + m) % m
	b := ((bx+by+int64(n)*f)%m + m) % m
	return uint32(b*65536 + a), api.OK
}

func TestP7JoinOfAnyNumbers(t *testing.T) {
	var sums []uint32
	halves := []uint32{0, 1, 2, 255, 32768, 65519, 65520, 65521, 65522, 65535}
	for _, b := range halves {
		for _, a := range halves {
			sums = append(sums, b*65536+a)
		}
	}
	counts := []int{math.MinInt, -65521, -1, 0, 1, 2, 255, 4095, 4096, 4097, 65521, 1 << 32, 1<<32 + 1, math.MaxInt}
	for _, x := range sums {
		for _, y := range sums {
			for _, n := range counts {
				got, err := Join(x, y, n)
				want, wantErr := wantJoin(x, y, n)
				if got != want || err != wantErr {
					t.Fatalf("Join(%08x, %08x, %d) = %08x %d, want %08x %d", x, y, n, got, err, want, wantErr)
				}
			}
		}
	}
}

func TestP7JoinErrors(t *testing.T) {
	const most = 65520*65536 + 65520
	if n, err := Join(most, most, api.MaxText); n == 0 || err != api.OK {
		t.Errorf("the greatest that may be: %08x %d", n, err)
	}
	for _, c := range []struct {
		x, y uint32
		n    int
	}{
		{1, 1, -1}, {1, 1, 4097}, {65521, 1, 5}, {65521 * 65536, 1, 5}, {1, 65521, 5}, {1, 65521 * 65536, 5},
		{math.MaxUint32, 1, 0}, {1, math.MaxUint32, 0}, {1, 1, math.MinInt}, {1, 1, math.MaxInt},
	} {
		if n, err := Join(c.x, c.y, c.n); n != 0 || err != api.ErrArg {
			t.Errorf("Join(%08x, %08x, %d) = %08x %d, want ErrArg", c.x, c.y, c.n, n, err)
		}
	}
}

func TestP8PutAndGet(t *testing.T) {
	if s, err := Put("a"); s != "a\x00\x62\x00\x62" || err != api.OK {
		t.Errorf("Put(a) = %x %d", s, err)
	}
	if s, err := Put("Wikipedia"); s != "Wikipedia\x11\xe6\x03\x98" || err != api.OK {
		t.Errorf("Put(Wikipedia) = %x %d", s, err)
	}
	for _, text := range someTexts() {
		want := string(binary.BigEndian.AppendUint32([]byte(text), adler32.Checksum([]byte(text))))
		s, err := Put(text)
		if s != want || err != api.OK {
			t.Errorf("Put of %d bytes: %d bytes, %d", len(text), len(s), err)
		}
		back, err := Get(s)
		if back != text || err != api.OK {
			t.Errorf("Get of %d bytes: %d bytes, %d", len(s), len(back), err)
		}
	}
}

func TestP8PutOfTooMuch(t *testing.T) {
	for _, text := range longTexts() {
		if s, err := Put(text); s != "" || err != api.ErrLarge {
			t.Errorf("Put of %d bytes: %d bytes, %d", len(text), len(s), err)
		}
	}
}

func TestP8GetErrors(t *testing.T) {
	large := strings.Repeat("x", api.MaxText+1)
	largeRight := string(binary.BigEndian.AppendUint32([]byte(large), adler32.Checksum([]byte(large))))
	for _, c := range []struct {
		s    string
		want api.Errno
	}{
		{"", api.ErrShort}, {"a", api.ErrShort}, {"abc", api.ErrShort}, {"\x00\x00\x01", api.ErrShort},
		{"abcd", api.ErrSum}, {"\x01\x00\x00\x00", api.ErrSum}, {"\x00\x00\x00\x00", api.ErrSum},
		{"a\x62\x00\x62\x00", api.ErrSum}, {"\x00\x62\x00\x62a", api.ErrSum}, {"a\x00\x62\x00\x62z", api.ErrSum},
		{strings.Repeat("x", api.MaxText+4), api.ErrSum},
		{strings.Repeat("x", api.MaxText+5), api.ErrLarge}, {largeRight, api.ErrLarge},
		{strings.Repeat("x", 1<<20), api.ErrLarge},
	} {
		if text, err := Get(c.s); text != "" || err != c.want {
			t.Errorf("Get(%.20x) of %d bytes: %d bytes, %d, want %d", c.s, len(c.s), len(text), err, c.want)
		}
	}
}

func TestP8GetTellsWhatWasChanged(t *testing.T) {
	for _, text := range []string{"", "a", "Wikipedia", strings.Repeat("\xff", 600)} {
		s, _ := Put(text)
		b := []byte(s)
		for i := range b {
			for d := 1; d < 256; d++ {
				b[i] += byte(d)
				if back, err := Get(string(b)); back != "" || err != api.ErrSum {
					t.Fatalf("%d more at place %d of %d: %q %d", d, i, len(b), back, err)
				}
				b[i] -= byte(d)
			}
		}
	}
}

// overlap tells whether two texts have a byte of memory in common.
func overlap(a, b string) bool {
	if a == "" || b == "" {
		return false
	}
	fromA, fromB := uintptr(unsafe.Pointer(unsafe.StringData(a))), uintptr(unsafe.Pointer(unsafe.StringData(b)))
	return fromA < fromB+uintptr(len(b)) && fromB < fromA+uintptr(len(a))
}

func TestP2AnswersAreNewMemory(t *testing.T) {
	for _, text := range someTexts() {
		put, _ := Put(text)
		if overlap(put, text) {
			t.Errorf("Put of %d bytes shares memory with its argument", len(text))
		}
		got, _ := Get(put)
		if overlap(got, put) {
			t.Errorf("Get of %d bytes shares memory with its argument", len(text))
		}
	}
}

func TestP2NothingIsKept(t *testing.T) {
	for range 3 {
		if n := Sum("Wikipedia"); n != 0x11e60398 {
			t.Fatalf("Sum(Wikipedia) = %08x", n)
		}
		if n, err := Join(0x03da0195, 0x06280204, 5); n != 0x11e60398 || err != api.OK {
			t.Fatalf("Join = %08x %d", n, err)
		}
		Sum("other")
		Join(65521, 0, 0)
		Get("abcd")
		Put(strings.Repeat("b", api.MaxText+1))
	}
}

func TestP2CallsAtOneTime(t *testing.T) {
	var all sync.WaitGroup
	for hand := range 4 {
		all.Go(func() {
			for k := range 500 {
				text := strings.Repeat("quire", k%40+hand)
				s, _ := Put(text)
				if back, err := Get(s); back != text || err != api.OK {
					t.Errorf("%q came back as %q, %d", text, back, err)
				}
			}
		})
	}
	all.Wait()
}

func TestP1NoCallPanics(t *testing.T) {
	defer func() {
		if r := recover(); r != nil {
			t.Error("panic:", r)
		}
	}()
	for _, s := range append(someTexts(), longTexts()...) {
		Sum(s)
		Put(s)
		Get(s)
		for _, n := range []int{math.MinInt, -1, 0, len(s), math.MaxInt} {
			Join(math.MaxUint32, Sum(s), n)
			Join(0, 0, n)
		}
	}
}
