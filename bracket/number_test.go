package bracket_test

import (
	"fmt"
	"strconv"
	"strings"
	"testing"

	"burin/api"
	"burin/bracket"
)

// signs are the bytes from 21 to 7E (hexadecimal) that are neither letters nor digits.
const signs = "!\"#$%&'()*+,-./:;<=>?@[\\]^_`{|}~"

// named are the letters that stand for a number.
var named = map[byte]int{'a': 0x7, 'f': 0xC, 't': 0x9, 'n': 0xA, 'r': 0xD, 'v': 0xB}

// tails may follow an escape that is over: they have no influence on it.
var tails = []string{"", "a", "0", "41", "}", "]", "{", "{41}", "\\", "\\n", "-z", "\x00", "\x80", "\xFF", "\u00E9"}

// number demands what Number returns for s.
func number(t *testing.T, s string, r, n int, e api.Code) {
	t.Helper()
	gotR, gotN, gotE := bracket.Number(s)
	if gotR != r || gotN != n || gotE != e {
		t.Errorf("Number(%q) = %X, %d, %d, want %X, %d, %d", s, gotR, gotN, gotE, r, n, e)
	}
}

func TestNumberOfEveryByte(t *testing.T) {
	for i := range 256 {
		c := byte(i)
		for _, tail := range tails {
			s := "\\" + string([]byte{c}) + tail
			r, isNamed := named[c]
			switch {
			case c == 'x': // see below
			case isNamed:
				number(t, s, r, 2, api.OK)
			case strings.IndexByte(signs, c) >= 0:
				number(t, s, i, 2, api.OK)
			default:
				number(t, s, 0, 0, api.ErrEscape)
			}
		}
	}
}

func TestNumberWithoutABackslash(t *testing.T) {
	number(t, "", 0, 0, api.ErrForm)
	for i := range 256 {
		if i == '\\' {
			continue
		}
		for _, tail := range append(tails, "\\x41", "x41") {
			number(t, string([]byte{byte(i)})+tail, 0, 0, api.ErrForm)
		}
	}
	number(t, "\u00E9\\n", 0, 0, api.ErrForm)
	number(t, "\uFF3Cn", 0, 0, api.ErrForm) // a backslash, but not byte 92
}

func TestNumberEndsEarly(t *testing.T) {
	for _, s := range []string{
		"\\", "\\x", "\\x4", "\\xF", "\\xa", "\\x0",
		"\\x{", "\\x{1", "\\x{12", "\\x{123", "\\x{1234", "\\x{12345", "\\x{123456", "\\x{10FFFF", "\\x{000000",
		// What is too great is seen at the } only.
		"\\x{110000", "\\x{FFFFFF", "\\x{ffffff",
	} {
		number(t, s, 0, 0, api.ErrEnd)
	}
}

func TestNumberIsNoEscape(t *testing.T) {
	for _, s := range []string{
		"\\xg", "\\x4g", "\\xg4", "\\x4}", "\\x}", "\\x4{", "\\x 41", "\\x-1", "\\x+1", "\\x_1", "\\x1_", "\\x0x41", "\\x\\", "\\x4\\", "\\x4\xFF", "\\x\u00E9", "\\xG0", "\\x0G",
		"\\x{}", "\\x{}}", "\\x{ }", "\\x{g", "\\x{1g", "\\x{12345g", "\\x{123456g", "\\x{-1}", "\\x{+1}", "\\x{_1}", "\\x{1_1}", "\\x{0x1}", "\\x{ 1}", "\\x{1 }", "\\x{{1}}", "\\x{1{", "\\x{\\", "\\x{1\xFF}",
		// seven digits
		"\\x{1234567", "\\x{1234567}", "\\x{0000041", "\\x{0000041}", "\\x{0000000}", "\\x{00000041}", "\\x{FFFFFFFFFFFFFFFFFF}", "\\x{000000000000000000041}",
		// beyond the last rune
		"\\x{110000}", "\\x{110001}", "\\x{10FFFF0}", "\\x{200000}", "\\x{FFFFFF}", "\\x{ffffff}", "\\x{800000}",
		// what other languages have
		"\\X41", "\\u0041", "\\U00000041", "\\0", "\\1", "\\101", "\\9", "\\b", "\\e", "\\c", "\\cA", "\\d", "\\D", "\\w", "\\p{Greek}", "\\Q", "\\E", "\\A", "\\z", "\\N", "\\T", "\\F", "\\R", "\\V",
		"\\ ", "\\\n", "\\\x7F", "\\\x00", "\\\x20", "\\\x80", "\\\xFF", "\\\u00E9",
	} {
		number(t, s, 0, 0, api.ErrEscape)
		if !strings.HasSuffix(s, "}") && len(s) > 2 {
			number(t, s+"}", 0, 0, api.ErrEscape)
		}
	}
}

// hexadecimal returns the number that s spells, by the library.
func hexadecimal(s string) (int, bool) {
	n, err := strconv.ParseUint(s, 16, 32)
	return int(n), err == nil
}

func TestNumberOfTwoDigits(t *testing.T) {
	for i := range 256 {
		for j := range 256 {
			two := string([]byte{byte(i), byte(j)})
			s := "\\x" + two
			r, fits := hexadecimal(two)
			_, begins := hexadecimal(two[1:])
			switch {
			case fits:
				number(t, s, r, 4, api.OK)
				number(t, s+"0", r, 4, api.OK)
				number(t, s+"\xFF", r, 4, api.OK)
				number(t, s+"}", r, 4, api.OK)
			case i == '{' && begins:
				number(t, s, 0, 0, api.ErrEnd)
			default:
				number(t, s, 0, 0, api.ErrEscape)
			}
		}
		one := string([]byte{byte(i)})
		if _, begins := hexadecimal(one); begins || one == "{" {
			number(t, "\\x"+one, 0, 0, api.ErrEnd)
		} else {
			number(t, "\\x"+one, 0, 0, api.ErrEscape)
		}
	}
}

func TestNumberInBraces(t *testing.T) {
	for r := range 0x120000 {
		for _, format := range []string{"%x", "%X", "%06x", "%05X"} {
			spelled := fmt.Sprintf(format, r)
			s := "\\x{" + spelled + "}"
			if r > 0x10FFFF {
				number(t, s, 0, 0, api.ErrEscape)
			} else {
				number(t, s, r, 4+len(spelled), api.OK)
			}
		}
	}
}

func TestNumberInBracesOfAnyLength(t *testing.T) {
	for _, digits := range []string{"00000000", "00000001", "11111111", "0000000a", "0F0f0F0f", "10FFFF00", "ABCDEFAB", "99999999"} {
		for n := range len(digits) + 1 {
			begun := "\\x{" + digits[:n]
			r, _ := hexadecimal(digits[:n])
			for _, tail := range tails {
				switch {
				case n == 0 || n > 6 || r > 0x10FFFF:
					number(t, begun+"}"+tail, 0, 0, api.ErrEscape)
				default:
					number(t, begun+"}"+tail, r, n+4, api.OK)
				}
			}
			if n <= 6 {
				number(t, begun, 0, 0, api.ErrEnd)
			} else {
				number(t, begun, 0, 0, api.ErrEscape)
			}
		}
	}
}

func TestNumberInBracesWithAnyByte(t *testing.T) {
	for i := range 256 {
		one := string([]byte{byte(i)})
		_, isDigit := hexadecimal(one)
		for n := range 7 {
			front, back := "12345"[:min(n, 5)], "12345"[min(n, 5):]
			s := "\\x{" + front + one + back + "}"
			switch {
			case isDigit:
				r, _ := hexadecimal(front + one + back)
				if r > api.MaxRune {
					number(t, s, 0, 0, api.ErrEscape)
				} else {
					number(t, s, r, 10, api.OK)
				}
				number(t, s[:len(s)-1], 0, 0, api.ErrEnd)
			case one == "}" && n > 0:
				r, _ := hexadecimal(front)
				number(t, s, r, 4+len(front), api.OK)
			default:
				number(t, s, 0, 0, api.ErrEscape)
				number(t, s[:4+len(front)], 0, 0, api.ErrEscape)
			}
		}
	}
}

func TestNumberEndsAfterAnyByte(t *testing.T) {
	for _, s := range []string{"\\n", "\\\\", "\\]", "\\x41", "\\xfF", "\\x{0}", "\\x{7f}", "\\x{D800}", "\\x{1F600}", "\\x{10ffff}"} {
		number(t, "", 0, 0, api.ErrForm)
		for n := 1; n < len(s); n++ {
			number(t, s[:n], 0, 0, api.ErrEnd)
		}
		if _, n, e := bracket.Number(s); n != len(s) || e != api.OK {
			t.Errorf("Number(%q): %d, %d", s, n, e)
		}
	}
}

func TestNumberOfALongString(t *testing.T) {
	number(t, "\\x{"+strings.Repeat("0", 1<<20), 0, 0, api.ErrEscape)
	number(t, "\\x{41}"+strings.Repeat("}", 1<<20), 0x41, 6, api.OK)
	number(t, strings.Repeat("\\", 1<<20), '\\', 2, api.OK)
}
