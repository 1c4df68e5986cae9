// Package utf is layer 1: UTF-8 encoding and decoding. See shared/doc/01-utf.md.
package utf

import (
	"burin/api"
	"iter"
)

// longest is the number of bytes in the longest encoding.
const longest = 4

// Width returns the number of bytes in the encoding of r, or 0 if r is not a rune.
func Width(r int) int {
	switch {
	case r < 0 || r > api.MaxRune || 0xD800 <= r && r <= 0xDFFF:
		return 0
	case r <= 0x7F:
		return 1
	case r <= 0x7FF:
		return 2
	case r <= 0xFFFF:
		return 3
	}
	return longest
}

// Encode returns the encoding of r, or ErrRange if r is not a rune.
func Encode(r int) (string, api.Code) {
	n := Width(r)
	if n == 0 {
		return "", api.ErrRange
	}
	b := spell(r, n)
	return string(b[:n]), api.OK
}

// spell returns the encoding of a rune of width n, in the first n bytes of the array.
func spell(r, n int) [longest]byte {
	var b [longest]byte
	for i := n - 1; i > 0; i-- {
		b[i] = byte(0x80 + r&0x3F)
		r >>= 6
	}
	b[0] = byte(mark(n) + r)
	return b
}

// mark returns what the first byte of an encoding of n bytes adds to the upper bits of the rune.
func mark(n int) int {
	switch n {
	case 2:
		return 0xC0
	case 3:
		return 0xE0
	case longest:
		return 0xF0
	}
	return 0
}

// Decode returns the rune and the length of the first piece of s: -1 and 1 for an invalid byte, -1 and 0 if s is empty.
func Decode(s string) (r, n int) {
	if s == "" {
		return -1, 0
	}
	n = announced(s[0])
	if n == 0 || n > len(s) {
		return -1, 1
	}
	r = int(s[0]) - mark(n)
	for i := 1; i < n; i++ {
		if s[i]&0xC0 != 0x80 {
			return -1, 1
		}
		r = r<<6 + int(s[i]&0x3F)
	}
	// The bits may still be those of no rune, or of one that has a shorter encoding.
	if Width(r) != n {
		return -1, 1
	}
	return r, n
}

// announced returns how many bytes an encoding has that begins with b, or 0 if none does by its upper bits.
func announced(b byte) int {
	switch {
	case b < 0x80:
		return 1
	case b < 0xC0:
		return 0
	case b < 0xE0:
		return 2
	case b < 0xF0:
		return 3
	case b < 0xF8:
		return longest
	}
	return 0
}

// Each yields the offset and the rune of each piece of s from the front, with -1 for an invalid byte.
func Each(s string) iter.Seq2[int, int] {
	return func(yield func(int, int) bool) {
		for at := 0; at < len(s); {
			r, n := Decode(s[at:])
			if !yield(at, r) {
				return
			}
			at += n
		}
	}
}

// Count returns the number of pieces of s.
func Count(s string) int {
	n := 0
	for range Each(s) {
		n++
	}
	return n
}

// Valid reports whether every piece of s is a rune.
func Valid(s string) bool {
	for _, r := range Each(s) {
		if r < 0 {
			return false
		}
	}
	return true
}

// Before returns the length of the piece of s that ends at the offset at, or 0 if at is not from 1 to the length of s.
//
// It suffices to look for an encoding that ends there: the first byte of an encoding
// is never a later byte of another one, so reading from the front never steps over it.
func Before(s string, at int) int {
	if at < 1 || at > len(s) {
		return 0
	}
	for n := 2; n <= min(at, longest); n++ {
		if _, got := Decode(s[at-n : at]); got == n {
			return n
		}
	}
	return 1
}
