// Package code: numbers and texts as bytes: see doc/01-code.md.
package code

import (
	"strings"

	"quirestock/api"
)

// A byte holds seven bits of a number, so nine bytes hold 63 of its 64 bits:
// for the tenth byte, at place 9, only the highest bit is left.
const (
	more      = 128
	tenthAt   = 9
	mostTenth = 1
)

// PutNat: P3.
func PutNat(n uint64) string {
	var b []byte
	for n >= more {
		b = append(b, byte(n%more)+more)
		n /= more
	}
	return string(append(b, byte(n)))
}

// GetNat: P3.
func GetNat(s string) (uint64, int, api.Errno) {
	var n uint64
	for i := 0; i < len(s); i++ {
		b := s[i]
		if i == tenthAt && b > mostTenth {
			return 0, 0, api.ErrLarge
		}
		n |= uint64(b%more) << uint(7*i)
		if b >= more {
			continue
		}
		// A last byte of 0 adds nothing: the number has a shorter form.
		if b == 0 && i > 0 {
			return 0, 0, api.ErrForm
		}
		return n, i + 1, api.OK
	}
	return 0, 0, api.ErrShort
}

// PutInt: P4.
func PutInt(n int) string {
	if n >= 0 {
		return PutNat(2 * uint64(n))
	}
	// -2n - 1 as 2(-(n + 1)) + 1: the least int has no counterpart above 0.
	return PutNat(2*uint64(-(n+1)) + 1)
}

// GetInt: P4.
func GetInt(s string) (int, int, api.Errno) {
	m, took, err := GetNat(s)
	if err != api.OK {
		return 0, 0, err
	}
	half := int(m / 2)
	if m%2 == 0 {
		return half, took, api.OK
	}
	return -half - 1, took, api.OK
}

// PutText: P5.
func PutText(s string) (string, api.Errno) {
	if len(s) > api.MaxText {
		return "", api.ErrLarge
	}
	return PutNat(uint64(len(s))) + s, api.OK
}

// GetText: P5.
func GetText(s string) (string, int, api.Errno) {
	n, took, err := GetNat(s)
	if err != api.OK {
		return "", 0, err
	}
	if n > api.MaxText {
		return "", 0, api.ErrLarge
	}
	end := took + int(n)
	if end > len(s) {
		return "", 0, api.ErrShort
	}
	// A piece of s would share its memory (P2).
	return strings.Clone(s[took:end]), end, api.OK
}
