package wal

import (
	"strings"

	"quirestock/api"
	"quirestock/code"
	"quirestock/fold"
)

// The first byte of a sector says what it is.
const (
	firstMark  = "\x01"
	laterMark  = "\x02"
	anchorMark = "\x03"
	markSize   = 1
)

// sumSize is how much fold.Put lays behind a text.
const sumSize = 4

// record is one that was found, and how many sectors it has.
type record struct {
	text        string
	epoch, size int
}

func putAnchor(epoch int) string {
	// A number is never too large for fold.Put.
	s, _ := fold.Put(code.PutInt(epoch))
	return fill(anchorMark + s)
}

func getAnchor(s string) (epoch int, ok bool) {
	if s == fill("") {
		return 0, true
	}
	epoch, _, err := code.GetInt(s[markSize:])
	if err != api.OK || epoch < 0 || epoch > api.MaxEpoch {
		return 0, false
	}
	return epoch, s == putAnchor(epoch)
}

// fill lays bytes 0 behind s, as a disk does.
func fill(s string) string {
	return s + strings.Repeat("\x00", api.Sector-len(s))
}

func putHead(mark string, epoch, number int) string {
	return mark + code.PutInt(epoch) + code.PutInt(number)
}

// getHead reads the head of a record's first sector, and how long it is.
func getHead(s string) (epoch, number, size int, ok bool) {
	if !strings.HasPrefix(s, firstMark) {
		return 0, 0, 0, false
	}
	epoch, took, err := code.GetInt(s[markSize:])
	if err != api.OK {
		return 0, 0, 0, false
	}
	size = markSize + took
	number, took, err = code.GetInt(s[size:])
	if err != api.OK {
		return 0, 0, 0, false
	}
	return epoch, number, size + took, true
}

// putRecord tells what the record's sectors have in them; its text is of at
// most MaxRecord bytes, which neither PutText nor fold.Put finds too large.
func putRecord(text string, epoch, number int) []string {
	counted, _ := code.PutText(text)
	rest, _ := fold.Put(counted)
	var parts []string
	head := putHead(firstMark, epoch, number)
	for rest != "" {
		n := min(api.Sector-len(head), len(rest))
		parts = append(parts, head+rest[:n])
		rest = rest[n:]
		head = putHead(laterMark, epoch, number)
	}
	return parts
}

// getRecord reads the record of that number from the front of the sectors, of
// whatever epoch it is.
func getRecord(sectors []string, number int) (record, bool) {
	if len(sectors) == 0 {
		return record{}, false
	}
	epoch, itsNumber, size, ok := getHead(sectors[0])
	if !ok || itsNumber != number {
		return record{}, false
	}
	have := sectors[0][size:]
	n, took, err := code.GetNat(have)
	if err != api.OK || n > api.MaxRecord {
		return record{}, false
	}
	need := took + int(n) + sumSize
	used := 1
	// GetInt takes each number in one form only: a sector has this head, if it
	// begins with its bytes.
	head := putHead(laterMark, epoch, number)
	for len(have) < need {
		if used == len(sectors) || !strings.HasPrefix(sectors[used], head) {
			return record{}, false
		}
		have += sectors[used][len(head):]
		used++
	}
	counted, err := fold.Get(have[:need])
	if err != api.OK {
		return record{}, false
	}
	text, _, err := code.GetText(counted)
	return record{text: text, epoch: epoch, size: used}, err == api.OK
}
