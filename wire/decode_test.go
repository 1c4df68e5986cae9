package wire_test

import (
	"math/big"
	"strings"
	"testing"
)

// What is no encoding, though its last byte is right if there is one.
func TestStringsOfNoProgram(t *testing.T) {
	// nothing, or not all of the letters
	for _, s := range []string{"", "B", "BR", "BR1", "\x00", "1", "R1", "br1", "\x00\x02\x01\x05", "\xff", "program 0 2\nmatch\n", "\u00e9", "BR1\xff"} {
		refused(t, s)
		refused(t, check(s))
	}
	for _, s := range []string{
		// a part of a program, or less
		"", "00", "00 02", "00 02 01", "00 02 02 05", "00 02 03 05 06", "9F", "00 80", "00 02 80", "9F 1F", "9F 1F 40",

		// no instructions
		"00 02 00", "00 00 00", "9F 1F 40 00", "00 02 00 05", "00 02 80 00 05",

		// fewer or more than the count tells
		"00 02 01 05 05", "00 02 01 05 06", "00 02 02 05 05 05", "00 02 03 05 05", "00 02 7F 05", "00 02 80 01 05", "00 02 A0 1F 05", "00 02 01 05 00", "00 02 01 01 00 00 00 00", "00 02 01 02 00 00 00", "00 02 01 03 00 00 00", "00 02 01 04 01 00 00",

		// fields that are missing
		"00 02 01 01", "00 02 01 01 00", "00 02 01 01 00 00", "00 02 01 02", "00 02 01 02 00", "00 02 01 03", "00 02 01 03 00", "00 02 01 04", "00 02 01 04 01", "00 02 02 01 00 00 05", "00 02 02 02 00 05", "00 02 01 01 80", "00 02 01 02 00 80", "00 02 01 02 80 80",

		// fields that an instruction does not have
		"00 02 01 05 00 00 00 00", "00 02 01 06 00", "00 02 01 02 00 00 00 00", "00 02 01 02 00 00 01 02", "00 02 01 03 01 00 02 00", "00 02 01 04 01 00 02 00", "00 02 01 01 61 63 01 00",

		// numbers that are too great, and Lo greater than Hi
		"A0 1F 02 01 05", "00 41 01 05", "00 02 A1 1F 05", "00 02 01 01 80 02 80 02 00", "00 02 01 01 00 80 02 00", "00 02 01 01 01 00 00", "00 02 01 01 63 61 01", "00 02 01 01 00 00 A0 1F", "00 02 01 02 A0 1F 00", "00 02 01 02 00 A0 1F", "00 02 01 03 40 00", "00 02 01 03 00 A0 1F", "00 02 01 04 00 00", "00 02 01 04 07 00", "00 02 01 04 01 A0 1F", "FF 7F 02 01 05", "00 FF 7F 01 05", "00 02 FF 7F 05",

		// numbers of more than two bytes
		"80 80 01 02 01 05", "FF FF 03 02 01 05", "00 80 80 04 01 05", "00 02 80 80 04 05", "00 02 01 02 80 80 01 00", "00 02 01 02 00 80 80 01", "00 02 01 01 00 00 FF FF 7F",

		// operations that there are not
		"00 02 01 00", "00 02 01 07", "00 02 01 08", "00 02 01 7F", "00 02 01 80", "00 02 01 81", "00 02 01 85", "00 02 01 FF", "00 02 01 85 00", "00 02 01 07 00 00", "00 02 01 00 00 00 00 00", "00 02 02 05 00", "00 02 02 00 05", "00 02 01 41 61 63 01", "00 02 01 35",

		// other orders
		"00 01 02 05", "01 00 02 05", "02 01 05", "01 05 00 02", "05 00 02 01", "00 02 05 01", "00 02 01 01 63 01 61",
	} {
		refused(t, seal(raw(s)))
		if _, ok := modelDecode(seal(raw(s))); ok {
			t.Errorf("the model decodes %s", s)
		}
	}
}

// The letters at the front, in capitals and complete, and nothing ahead of them.
func TestLetters(t *testing.T) {
	for _, x := range written {
		s := raw(x.s)
		body := s[3 : len(s)-1]
		for _, front := range []string{"", "B", "R", "1", "BR", "R1", "B1", "br1", "Br1", "bR1", "BR2", "BR0", "BRl", "BRI", "BR\x01", "RB1", "1RB", "B1R", "BR 1", "BR11", "BBR1", " BR1", "BR1 ", "BR1BR1", "BR1\n", "BR1\x00", "\xef\xbb\xbfBR1", "\uff22R1", "\u0412R1", "BRR1", "AR1", "CR1", "BQ1", "BS1", "\x00\x00\x00", "\xff\xff\xff", "\xc2R1"} {
			refused(t, front+body+s[len(s)-1:])
			refused(t, check(front+body))
		}
		for i := range 3 {
			for c := range 256 {
				changed := s[:i] + string([]byte{byte(c)}) + s[i+1:len(s)-1]
				decodes(t, check(changed), x.p, byte(c) == s[i])
			}
		}
	}
	r := random(3)
	for range 200000 {
		front := string([]byte{byte(r.IntN(256)), byte(r.IntN(256)), byte(r.IntN(256))})
		decodes(t, check(front+"\x00\x02\x01\x05"), of(0, 2, match()), front == "BR1")
	}
}

// Of all bytes at the end, one alone is right.
func TestLastByte(t *testing.T) {
	for _, p := range wellFormed() {
		s := modelBytes(p)
		for c := range 256 {
			decodes(t, s[:len(s)-1]+string([]byte{byte(c)}), p, byte(c) == s[len(s)-1])
		}
		refused(t, s[:len(s)-1])
	}
}

// The end of the string at every place, also with a last byte that is right there.
func TestStringsThatEndEarly(t *testing.T) {
	for _, p := range wellFormed() {
		s := modelBytes(p)
		step := max(1, len(s)/1000)
		for i := 0; i < len(s); i += step {
			refused(t, s[:i])
			refused(t, s[i+1:])
			if i < len(s)-1 {
				refused(t, check(s[:i]))
			}
		}
	}
}

// Bytes behind the last one, or ahead of the first, also such that the exclusive or stays as it is.
func TestBytesBehindTheEnd(t *testing.T) {
	for _, p := range wellFormed() {
		s := modelBytes(p)
		for c := range 256 {
			refused(t, s+string([]byte{byte(c)}))
			refused(t, check(s+string([]byte{byte(c)})))
			refused(t, s+string([]byte{byte(c), byte(c)}))
			refused(t, string([]byte{byte(c)})+s)
			refused(t, string([]byte{byte(c), byte(c)})+s)
			refused(t, check(s[:len(s)-1]+string([]byte{byte(c)})+s[len(s)-1:]))
		}
		refused(t, s+s)
		refused(t, s+s+s)
		refused(t, s+"\x00\x00\x00\x00")
		refused(t, s+"\n")
	}
}

// Every Op at every place of an instruction, and every Op with the fields of every other.
func TestOps(t *testing.T) {
	for c := range 256 {
		op := string([]byte{byte(c)})
		for _, fields := range []string{"", "\x00", "\x00\x00", "\x01\x00", "\x00\x00\x00", "\x01\x02\x03", "\x01\x02\x03\x04", "\x01", "\x02\x01\x03"} {
			for _, s := range []string{"\x00\x02\x01" + op + fields, "\x00\x02\x02" + op + fields + "\x05", "\x00\x02\x02\x05" + op + fields, "\x00\x02\x02" + op + fields + op + fields, "\x00\x02\x03\x02\x05\x06" + op + fields + "\x06"} {
				likeTheModel(t, seal(s))
			}
		}
		decodes(t, seal("\x00\x02\x01"+op), of(0, 2, inst{Op: c}), c == opMatch || c == opFail)
	}
}

// place is an encoding with room for one more varint.
type place struct {
	name        string
	ahead, rest string
	p           func(n int) code
	least, most int
}

// places are all the places of varints. The number of instructions has a program of its own for each.
func places() []place {
	fields := "\x00\x02\x03\x05"
	ended := func(x inst) code { return of(0, 2, match(), x, fail()) }
	return []place{
		{"Start", "", "\x02\x01\x05", func(n int) code { return of(n, 2, match()) }, 0, 3999},
		{"Slots", "\x00", "\x01\x05", func(n int) code { return of(0, n, match()) }, 0, 64},
		{"count", "\x00\x02", "\x05\x06\x05", func(n int) code { return of(0, 2, match(), fail(), match()) }, 3, 3},
		{"Lo of byte", fields + "\x01", "\xC8\x01\x09\x06", func(n int) code { return ended(bytes(n, 200, 9)) }, 0, 200},
		{"Hi of byte", fields + "\x01\x05", "\x09\x06", func(n int) code { return ended(bytes(5, n, 9)) }, 5, 255},
		{"X of byte", fields + "\x01\x05\x06", "\x06", func(n int) code { return ended(bytes(5, 6, n)) }, 0, 3999},
		{"X of split", fields + "\x02", "\x07\x06", func(n int) code { return ended(split(n, 7)) }, 0, 3999},
		{"Y of split", fields + "\x02\x07", "\x06", func(n int) code { return ended(split(7, n)) }, 0, 3999},
		{"Lo of cap", fields + "\x03", "\x07\x06", func(n int) code { return ended(slot(n, 7)) }, 0, 63},
		{"X of cap", fields + "\x03\x07", "\x06", func(n int) code { return ended(slot(7, n)) }, 0, 3999},
		{"Lo of assert", fields + "\x04", "\x07\x06", func(n int) code { return ended(assert(n, 7)) }, 1, 6},
		{"X of assert", fields + "\x04\x03", "\x06", func(n int) code { return ended(assert(3, n)) }, 0, 3999},
	}
}

// Varints of one byte and of two, each number that they can have, and the same ones longer than necessary.
func TestVarintsOfEachNumber(t *testing.T) {
	for _, x := range places() {
		for n := range 1 << 14 {
			good := varints(n)
			ok := within(n, x.least, x.most)
			decodes(t, seal(x.ahead+good+x.rest), x.p(n), ok)
			if ok || n%97 == 0 {
				for _, groups := range []int{1, 2, 3, 8, 9, 10, 20} {
					refused(t, seal(x.ahead+longer(good, groups)+x.rest))
				}
			}
		}
	}
}

// All strings of two bytes where a varint stands.
func TestTwoBytesInPlaceOfVarints(t *testing.T) {
	for _, x := range places() {
		for i := range 1 << 16 {
			likeTheModel(t, seal(x.ahead+string([]byte{byte(i >> 8), byte(i)})+x.rest))
		}
	}
}

// Numbers that are too great for an int, or for any integer, and small once their highest bits are lost.
func TestVarintsOfGreatNumbers(t *testing.T) {
	for _, x := range places() {
		for n := x.least; n <= min(x.most, x.least+200); n++ {
			for _, bits := range []int{12, 13, 14, 15, 16, 20, 21, 28, 30, 31, 32, 33, 35, 42, 49, 56, 61, 62, 63, 64, 65, 69, 70, 71, 77, 128, 256, 1000} {
				refused(t, seal(x.ahead+varint(plus(n, bits))+x.rest))
			}
		}
		for _, n := range []*big.Int{plus(-1, 14), plus(-1, 31), plus(-1, 32), plus(-1, 62), plus(-1, 63), plus(-1, 64), plus(-2, 64), plus(-1, 70), plus(-1, 1000)} {
			refused(t, seal(x.ahead+varint(n)+x.rest))
		}
	}
}

// Varints that do not end, however long they are.
func TestVarintsThatDoNotEnd(t *testing.T) {
	for _, x := range places() {
		for _, b := range []string{"\x80", "\xff", "\x81", "\x83"} {
			for _, n := range []int{1, 2, 3, 4, 5, 8, 9, 10, 11, 12, 20, 64, 100, 1000, 1 << 20} {
				s := x.ahead + strings.Repeat(b, n)
				refused(t, seal(s))
				refused(t, "BR1"+s)
				if b == "\x80" || n > 2 {
					refused(t, seal(s+"\x00"+x.rest))
				}
				if n > 1 {
					refused(t, seal(s+x.rest[:1]+x.rest))
				}
			}
		}
	}
}

// The last byte is no part of a varint nor an instruction, though it may look like what is missing.
func TestTheLastByteIsNoPartOfTheRest(t *testing.T) {
	for start := range 128 {
		for c := range 256 {
			s := seal(string([]byte{byte(start), 2, 1, opSplit, 7, byte(c)}))
			decodes(t, s, of(start, 2, split(7, c)), c < 128)
			refused(t, s[:len(s)-1])
			refused(t, seal(string([]byte{byte(start), 2, 1, opSplit, byte(c)})))
			refused(t, seal(string([]byte{byte(start), 2, 1, opByte, byte(c), 127})))
			refused(t, seal(string([]byte{byte(start), 2, 2, opCap, byte(c % 64), 9})))
		}
		refused(t, seal(string([]byte{byte(start), 2, 2, opMatch})))
		refused(t, seal(string([]byte{byte(start), 2})))
		refused(t, seal(string([]byte{byte(start)})))
	}
}

// The count is that of the instructions, whatever else could be read.
func TestCounts(t *testing.T) {
	for _, x := range []inst{match(), fail(), bytes(5, 6, 5), split(5, 6), slot(5, 6), assert(5, 6)} {
		for _, n := range []int{0, 1, 2, 3, 5, 6, 127, 128, 129, 300, 3999, 4000} {
			p := of(1, 2, many(x, n)...)
			whole := modelBytes(p)
			body := strings.TrimPrefix(whole[:len(whole)-1], "BR1"+varints(1, 2, n))
			for _, count := range []int{0, 1, 2, 3, 4, 6, n / 2, n - 2, n - 1, n, n + 1, n + 2, 2 * n, n + 128, n + 256, n + 16384, n + 65536, 3999, 4000, 4001, 4002, 1<<31 - 1, 1 << 31, 1 << 32, n + 1<<32, 1<<63 - 1} {
				if count >= 0 {
					decodes(t, seal(varints(1, 2, count)+body), p, count == n && n > 0)
				}
			}
		}
	}
}
