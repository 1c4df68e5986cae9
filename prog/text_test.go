package prog_test

import (
	"slices"
	"strconv"
	"strings"
	"testing"

	"burin/api"
	"burin/prog"
)

// written are programs and their texts.
var written = []struct {
	p code
	s string
}{
	{of(0, 0, match()), "program 0 0\nmatch\n"},
	{of(0, 2, fail()), "program 0 2\nfail\n"},
	{of(3999, 64, match()), "program 3999 64\nmatch\n"},
	{of(1, 3, match(), fail()), "program 1 3\nmatch\nfail\n"},
	{of(10, 20, fail(), fail(), match()), "program 10 20\nfail\nfail\nmatch\n"},

	// the examples: a byte from a to c, then instruction 1; the core a* (chapter 17); an empty loop (chapter 16)
	{of(0, 2, bytes('a', 'c', 1), match()), "program 0 2\nbyte 97 99 1\nmatch\n"},
	{of(2, 2, match(), fail(), split(3, 0), bytes('a', 'a', 2)), "program 2 2\nmatch\nfail\nsplit 3 0\nbyte 97 97 2\n"},
	{of(0, 2, split(0, 1), match()), "program 0 2\nsplit 0 1\nmatch\n"},

	// each operation, with its fields in their order, at their least and greatest numbers
	{of(0, 2, bytes(1, 2, 3)), "program 0 2\nbyte 1 2 3\n"},
	{of(0, 2, bytes(0, 0, 0)), "program 0 2\nbyte 0 0 0\n"},
	{of(0, 2, bytes(0, 255, 3999)), "program 0 2\nbyte 0 255 3999\n"},
	{of(0, 2, bytes(255, 255, 10)), "program 0 2\nbyte 255 255 10\n"},
	{of(0, 2, split(1, 2)), "program 0 2\nsplit 1 2\n"},
	{of(0, 2, split(2, 1)), "program 0 2\nsplit 2 1\n"},
	{of(0, 2, split(0, 0)), "program 0 2\nsplit 0 0\n"},
	{of(0, 2, split(3999, 0)), "program 0 2\nsplit 3999 0\n"},
	{of(0, 2, split(0, 3999)), "program 0 2\nsplit 0 3999\n"},
	{of(0, 2, slot(1, 2)), "program 0 2\ncap 1 2\n"},
	{of(0, 2, slot(0, 0)), "program 0 2\ncap 0 0\n"},
	{of(0, 2, slot(63, 3999)), "program 0 2\ncap 63 3999\n"},
	{of(0, 2, slot(2, 1)), "program 0 2\ncap 2 1\n"},
	{of(0, 2, assert(1, 0)), "program 0 2\nassert 1 0\n"},
	{of(0, 2, assert(6, 3999)), "program 0 2\nassert 6 3999\n"},
	{of(0, 2, assert(3, 4)), "program 0 2\nassert 3 4\n"},
	{of(7, 9, bytes(48, 57, 6), split(0, 2), slot(3, 4), assert(5, 6), match(), fail()), "program 7 9\nbyte 48 57 6\nsplit 0 2\ncap 3 4\nassert 5 6\nmatch\nfail\n"},
}

func TestTexts(t *testing.T) {
	for _, x := range written {
		shows(t, x.p, x.s, true)
		reads(t, x.s, x.p, true)
		if modelText(x.p) != x.s {
			t.Errorf("the model shows %q", modelText(x.p))
		}
	}
}

// Every number of every field is written as the decimal number that it is.
func TestTextOfEachNumber(t *testing.T) {
	for n := range 4100 {
		d := strconv.Itoa(n)
		for _, x := range []struct {
			p  code
			s  string
			ok bool
		}{
			{of(n, 2, match()), "program " + d + " 2\nmatch\n", n < 4000},
			{of(2, n, match()), "program 2 " + d + "\nmatch\n", n <= 64},
			{of(0, 2, bytes(n, n, 7)), "program 0 2\nbyte " + d + " " + d + " 7\n", n < 256},
			{of(0, 2, bytes(n, 255, 7)), "program 0 2\nbyte " + d + " 255 7\n", n < 256},
			{of(0, 2, bytes(0, n, 7)), "program 0 2\nbyte 0 " + d + " 7\n", n < 256},
			{of(0, 2, bytes(100, n, 7)), "program 0 2\nbyte 100 " + d + " 7\n", 100 <= n && n < 256},
			{of(0, 2, bytes(n, 100, 7)), "program 0 2\nbyte " + d + " 100 7\n", n <= 100},
			{of(0, 2, bytes(7, 8, n)), "program 0 2\nbyte 7 8 " + d + "\n", n < 4000},
			{of(0, 2, split(n, 7)), "program 0 2\nsplit " + d + " 7\n", n < 4000},
			{of(0, 2, split(7, n)), "program 0 2\nsplit 7 " + d + "\n", n < 4000},
			{of(0, 2, slot(n, 7)), "program 0 2\ncap " + d + " 7\n", n < 64},
			{of(0, 2, slot(7, n)), "program 0 2\ncap 7 " + d + "\n", n < 4000},
			{of(0, 2, assert(n, 7)), "program 0 2\nassert " + d + " 7\n", 1 <= n && n <= 6},
			{of(0, 2, assert(2, n)), "program 0 2\nassert 2 " + d + "\n", n < 4000},
		} {
			shows(t, x.p, x.s, x.ok)
			reads(t, x.s, x.p, x.ok)
		}
	}
}

// No text has a field that its instruction does not have, whatever its number; and none lacks one.
func TestTextsOfNoProgram(t *testing.T) {
	for _, s := range []string{
		// nothing, or no first line
		"", "\n", " ", "\n\n", "\x00", "match", "match\n", "fail\n", "byte 97 99 1\n", "match\nprogram 0 2\n", "\nprogram 0 2\nmatch\n",

		// no instructions
		"program", "program\n", "program 0 2", "program 0 2\n", "program 0 2\n\n", "program 0 0\n", "program 0 2\n ", "program 0 2\n \n",

		// other words, and words in capitals
		"Program 0 2\nmatch\n", "PROGRAM 0 2\nmatch\n", "prog 0 2\nmatch\n", "programs 0 2\nmatch\n", "program: 0 2\nmatch\n", "rogram 0 2\nmatch\n", "program0 2\nmatch\n", "match 0 2\nmatch\n", "0 2\nmatch\n", " 0 2\nmatch\n",
		"program 0 2\nMatch\n", "program 0 2\nMATCH\n", "program 0 2\nmatches\n", "program 0 2\nmatc\n", "program 0 2\nm\n", "program 0 2\nBYTE 97 99 1\n", "program 0 2\nByte 97 99 1\n", "program 0 2\nSplit 1 2\n", "program 0 2\nCap 1 2\n", "program 0 2\nAssert 1 2\n", "program 0 2\nFail\n", "program 0 2\nbytes 97 99 1\n", "program 0 2\nchar 97 99 1\n", "program 0 2\nocap 1 2\n", "program 0 2\nOMatch\n", "program 0 2\n5\n", "program 0 2\n1 97 99 1\n", "program 0 2\n97 99 1\n", "program 0 2\njump 1\n", "program 0 2\nnop\n", "program 0 2\nprogram 0 2\n", "program 0 2\nsplit 1 2\nprogram 0 2\nmatch\n", "program 0 2\nfailed\n", "program 0 2\n0\n", "program 0 2\n 1 2\n", "program 0 2\nmatchfail\n", "program 0 2\nbyte97 99 1\n",

		// too few and too many numbers
		"program\nmatch\n", "program 0\nmatch\n", "program 0 2 0\nmatch\n", "program 0 2 4 6\nmatch\n", "program 0 2 match\n", "program 0 2 match\nmatch\n",
		"program 0 2\nbyte\n", "program 0 2\nbyte 97\n", "program 0 2\nbyte 97 99\n", "program 0 2\nbyte 97 99 1 0\n", "program 0 2\nbyte 97 99 1 1\n", "program 0 2\nbyte 0 0\n",
		"program 0 2\nsplit\n", "program 0 2\nsplit 1\n", "program 0 2\nsplit 1 2 0\n", "program 0 2\nsplit 1 2 3\n", "program 0 2\nsplit 0 0 1 2\n", "program 0 2\nsplit 0\n",
		"program 0 2\ncap\n", "program 0 2\ncap 1\n", "program 0 2\ncap 1 2 0\n", "program 0 2\ncap 1 0 2\n", "program 0 2\ncap 1 0 2 0\n", "program 0 2\ncap 0\n",
		"program 0 2\nassert\n", "program 0 2\nassert 1\n", "program 0 2\nassert 1 2 0\n", "program 0 2\nassert 1 0 2 0\n",
		"program 0 2\nmatch 0\n", "program 0 2\nmatch 1\n", "program 0 2\nmatch 0 0 0 0\n", "program 0 2\nfail 0\n", "program 0 2\nfail 1 2\n",

		// numbers that are too small or too great
		"program -1 2\nmatch\n", "program 4000 2\nmatch\n", "program 0 -1\nmatch\n", "program 0 65\nmatch\n", "program 0 2\nbyte -1 99 1\n", "program 0 2\nbyte 97 256 1\n", "program 0 2\nbyte 256 256 1\n", "program 0 2\nbyte 99 97 1\n", "program 0 2\nbyte 97 99 4000\n", "program 0 2\nbyte 97 99 -1\n", "program 0 2\nsplit 4000 1\n", "program 0 2\nsplit 1 4000\n", "program 0 2\nsplit -1 1\n", "program 0 2\nsplit 1 -1\n", "program 0 2\ncap 64 1\n", "program 0 2\ncap 1 4000\n", "program 0 2\ncap -1 1\n", "program 0 2\nassert 0 1\n", "program 0 2\nassert 7 1\n", "program 0 2\nassert 1 4000\n", "program 0 2\nassert -1 1\n",

		// numbers with leading zeros, with signs, with other digits, and what is no number
		"program 00 2\nmatch\n", "program 0 02\nmatch\n", "program 01 2\nmatch\n", "program +0 2\nmatch\n", "program -0 2\nmatch\n", "program 0 +2\nmatch\n", "program 0x0 2\nmatch\n", "program 0 0x2\nmatch\n", "program 0 2.\nmatch\n", "program 0.0 2\nmatch\n", "program 0 2e0\nmatch\n", "program 0 1_0\nmatch\n", "program 0 b\nmatch\n", "program a 2\nmatch\n", "program 0, 2\nmatch\n", "program 0 (2)\nmatch\n", "program 0 \"2\"\nmatch\n",
		"program 0 2\nbyte 097 99 1\n", "program 0 2\nbyte 97 099 1\n", "program 0 2\nbyte 97 99 01\n", "program 0 2\nbyte 97 99 00\n", "program 0 2\nbyte +97 99 1\n", "program 0 2\nbyte 97 +99 1\n", "program 0 2\nbyte 97 99 +1\n", "program 0 2\nbyte -0 99 1\n", "program 0 2\nbyte 97 99 -0\n", "program 0 2\nbyte 0x61 99 1\n", "program 0 2\nbyte 0b11 99 1\n", "program 0 2\nbyte 0o7 99 1\n", "program 0 2\nbyte a c 1\n", "program 0 2\nbyte 'a' 'c' 1\n", "program 0 2\nbyte 9_7 99 1\n", "program 0 2\nbyte 97 9 9 1\n", "program 0 2\nbyte 97-99 1\n", "program 0 2\nbyte \u0663 \u0664 1\n", "program 0 2\nbyte \uff11 \uff12 1\n", "program 0 2\nsplit 00 1\n", "program 0 2\nsplit 1 00\n", "program 0 2\nsplit x y\n", "program 0 2\nsplit 1,2\n", "program 0 2\ncap 02 1\n", "program 0 2\ncap 2 01\n", "program 0 2\nassert 01 1\n", "program 0 2\nassert 1 01\n", "program 0 2\nassert AWord 1\n", "program 0 2\nsplit NaN 1\n", "program 0 2\nsplit 1 Inf\n",

		// numbers with more digits than fit in an int, and those that are small without some of their bits
		"program 18446744073709551616 2\nmatch\n", "program 0 18446744073709551618\nmatch\n", "program 4294967296 2\nmatch\n", "program 0 4294967298\nmatch\n", "program 9223372036854775807 2\nmatch\n", "program 9223372036854775808 2\nmatch\n", "program 0 -9223372036854775808\nmatch\n", "program 100000000000000000000000000000 2\nmatch\n", "program 65536 2\nmatch\n", "program 0 256\nmatch\n",
		"program 0 2\nbyte 18446744073709551713 99 1\n", "program 0 2\nbyte 97 18446744073709551715 1\n", "program 0 2\nbyte 97 99 18446744073709551617\n", "program 0 2\nbyte 353 355 1\n", "program 0 2\nbyte 97 99 65537\n", "program 0 2\nsplit 18446744073709551617 1\n", "program 0 2\nsplit 1 18446744073709551617\n", "program 0 2\ncap 18446744073709551618 1\n", "program 0 2\nassert 18446744073709551617 1\n", "program 0 2\nassert 4294967297 1\n",

		// spaces and the ends of lines
		" program 0 2\nmatch\n", "program  0 2\nmatch\n", "program 0  2\nmatch\n", "program 0 2 \nmatch\n", "program 0 2\n match\n", "program 0 2\nmatch \n", "program 0 2\nmatch\n ", "program\t0 2\nmatch\n", "program 0\t2\nmatch\n", "program 0 2\n\tmatch\n", "program 0 2\nmatch\t\n", "program\n0 2\nmatch\n", "program 0\n2\nmatch\n", "program 0 2 match \n", "program 0 2\n\x20byte 97 99 1\n", "program 0 2\nbyte  97 99 1\n", "program 0 2\nbyte 97  99 1\n", "program 0 2\nbyte 97 99  1\n", "program 0 2\nbyte 97 99 1 \n", "program 0 2\nbyte\t97 99 1\n", "program 0 2\nbyte 97\u00a099 1\n", "program 0 2\nbyte 97\x0b99 1\n", "program 0 2\nbyte 97,99,1\n", "program 0 2\nsplit 1  2\n", "program 0 2\nsplit  1 2\n", "program 0 2\nsplit 1 2 \n", "program 0 2\nsplit 1 \n", "program 0 2\nsplit 1  \n",
		"program 0 2\nmatch", "program 0 2\nbyte 97 99 1", "program 0 2\nmatch\nfail", "program 0 2\nmatch\r\n", "program 0 2\r\nmatch\n", "program 0 2\r\nmatch\r\n", "program 0 2\rmatch\r", "program 0 2\nmatch\r", "program 0 2\nmatch\n\r", "program 0 2\nmatch\u2028", "program 0 2\nmatch\x0b", "program 0 2\nmatch;fail\n", "program 0 2;match\n",

		// empty lines, and bytes behind the last line
		"program 0 2\n\nmatch\n", "program 0 2\nmatch\n\n", "program 0 2\nmatch\n\nfail\n", "program 0 2\nmatch\n\n\n", "program 0 2\nmatch\n \n", "program 0 2\nmatch\nx", "program 0 2\nmatch\n\x00", "program 0 2\nmatch\n0", "program 0 2\nmatch\n# the end\n", "# program\nprogram 0 2\nmatch\n", "program 0 2 # here\nmatch\n", "program 0 2\nmatch\nprogram 0 2\nmatch\n", "program 0 2\nmatch\nend\n",

		// bytes that are not UTF-8, and runes
		"\xff", "\xff\n", "program 0 2\n\xff\n", "program 0 2\nmatch\xff\n", "program 0 2\nmatch\n\xff", "\xffprogram 0 2\nmatch\n", "program \xff 2\nmatch\n", "program 0 \xb2\nmatch\n", "program 0 2\nbyte \xff 99 1\n", "program 0 2\nbyte 97 99 \xc3\n", "program 0 2\nmat\x80ch\n", "\xef\xbb\xbfprogram 0 2\nmatch\n", "program 0 2\nm\u0430tch\n", "program 0 2\n\u017fplit 1 2\n", "program 0 2\n\u00e9\n", "program 0 2\nmatch\x00\n", "program\x000 2\nmatch\n",
	} {
		refused(t, s)
		if _, ok := modelRead(s); ok {
			t.Errorf("the model reads %q", s)
		}
	}
}

// Numbers that are far too long.
func TestLongNumbers(t *testing.T) {
	for _, n := range []int{5, 10, 19, 20, 21, 64, 1000, 100000} {
		for _, d := range []string{"0", "1", "9"} {
			long := strings.Repeat(d, n)
			for _, s := range []string{"program " + long + " 2\nmatch\n", "program 0 " + long + "\nmatch\n", "program 0 2\nbyte " + long + " 255 1\n", "program 0 2\nbyte 0 " + long + " 1\n", "program 0 2\nbyte 0 0 " + long + "\n", "program 0 2\nsplit " + long + " 0\n", "program 0 2\nsplit 0 " + long + "\n", "program 0 2\ncap " + long + " 0\n", "program 0 2\nassert " + long + " 0\n", "program 0 2\nassert 1 " + long + "\n", "program -" + long + " 2\nmatch\n", "program 0 2\nsplit -" + long + " 0\n", "program 0" + long + " 2\nmatch\n", "program 0 2\nsplit " + strings.Repeat("0", n) + "1 0\n"} {
				refused(t, s)
			}
		}
	}
}

// As many instructions as may be, and one more, with texts as short and as long as may be.
func TestLongTexts(t *testing.T) {
	for _, x := range []inst{match(), fail(), bytes(0, 0, 0), bytes(255, 255, 3999), split(3999, 3999), slot(63, 3999), assert(6, 3999)} {
		for _, n := range []int{1, 3999, 4000} {
			p := of(3999, 64, many(x, n)...)
			shows(t, p, modelText(p), true)
			reads(t, modelText(p), p, true)
			refused(t, strings.TrimSuffix(modelText(p), "\n"))
			refused(t, modelText(p)+"\n")
			refused(t, modelText(p)+" ")
		}
		for _, n := range []int{4001, 4002, 8000, 65537} {
			refused(t, modelText(of(3999, 64, many(x, n)...)))
			refused(t, modelText(of(3999, 64, many(x, n)...))+"spoiled\n")
		}
	}
	most := modelText(of(0, 2, many(match(), 4000)...))
	refused(t, most[:len(most)-6]+"match 0\n")
	refused(t, most[:len(most)-6]+"\n")
	refused(t, most+"\n"+most)
	refused(t, most+most)
}

// Whatever is much too long is refused all the same.
func TestLongStrings(t *testing.T) {
	for _, s := range []string{"\n", " ", "0", "x", "\xff", "match\n", "0 ", "split 0 0\n", "program 0 2\n", "program 0 2\nmatch\n", "9"} {
		long := strings.Repeat(s, 1<<22/len(s))
		for _, ahead := range []string{"", "program ", "program 0 ", "program 0 2", "program 0 2 ", "program 0 2\n", "program 0 2\nmatch\n", "program 0 2\nbyte ", "program 0 2\nsplit 0 0", "program 0 2\nmatch"} {
			refused(t, ahead+long)
			refused(t, ahead+long+"\n")
			refused(t, ahead+long+"\nmatch\n")
		}
	}
}

// Texts with one byte left out, one more, or another one.
func TestSpoiledTexts(t *testing.T) {
	var l []string
	for _, x := range written {
		l = append(l, x.s)
	}
	l = append(l, "program 12 34\nsplit 100 2000\nbyte 10 200 3000\ncap 20 1\nassert 2 9\n", "program 0 2\nmatch 0\n", "program 00 2\nfail\n", "program 0 2\nassert 0 1\n")
	for _, s := range l {
		likeTheModel(t, s)
		for i := range len(s) + 1 {
			likeTheModel(t, s[:i])
			likeTheModel(t, s[i:])
			likeTheModel(t, s[:i]+s[i:]+s[:i])
			for c := range 256 {
				likeTheModel(t, s[:i]+string([]byte{byte(c)})+s[i:])
				if i < len(s) {
					likeTheModel(t, s[:i]+string([]byte{byte(c)})+s[i+1:])
				}
			}
			for j := i; j <= len(s); j++ {
				likeTheModel(t, s[:i]+s[j:])
				likeTheModel(t, s[:j]+s[i:])
			}
		}
	}
}

// every calls f with all strings of that many pieces.
func every(pieces []string, many int, s string, f func(string)) {
	if many == 0 {
		f(s)
		return
	}
	for _, piece := range pieces {
		every(pieces, many-1, s+piece, f)
	}
}

// All short strings of the pieces of texts.
func TestStringsOfPieces(t *testing.T) {
	pieces := []string{" ", "\n", "0", "1", "7", "-", "match", "byte"}
	for n := range 6 {
		every(pieces, n, "", func(s string) {
			likeTheModel(t, s)
			likeTheModel(t, "program"+s)
			likeTheModel(t, "program"+s+"\nmatch\n")
			likeTheModel(t, "program 0 2\n"+s)
			likeTheModel(t, "program 0 2\nfail\n"+s+"\n")
			likeTheModel(t, "program 0 2\nbyte"+s+"\n")
			likeTheModel(t, "program 0 2\nsplit"+s+"\n")
			likeTheModel(t, "program 0 2\ncap "+s+"\nfail\n")
			likeTheModel(t, "program 0 2\nassert "+s+" 0\n")
		})
	}
}

// All short lines of items, each with one space between them.
func TestLinesOfItems(t *testing.T) {
	items := []string{"0", "1", "6", "7", "63", "64", "255", "256", "3999", "4000", "00", "+1", ""}
	for _, word := range []string{"program", "byte", "split", "cap", "assert", "match", "fail", "", "x"} {
		for n := range 5 {
			lines(items, n, word, func(line string) {
				likeTheModel(t, line+"\n")
				likeTheModel(t, line+"\nmatch\n")
				likeTheModel(t, "program 0 2\n"+line+"\n")
				likeTheModel(t, "program 9 1\nmatch\n"+line+"\nsplit 1 2\n")
			})
		}
	}
}

// lines calls f with all lines of a word and that many items.
func lines(items []string, many int, line string, f func(string)) {
	if many == 0 {
		f(line)
		return
	}
	for _, item := range items {
		lines(items, many-1, line+" "+item, f)
	}
}

// Strings of any bytes and of many pieces of texts.
func TestRandomStrings(t *testing.T) {
	r := random(3)
	pieces := []string{"program 0 2\n", "program", "byte 97 99 1\n", "split 3 0\n", "cap 2 5\n", "assert 5 1\n", "match\n", "fail\n", "match\n", "byte ", "cap ", " ", "\n", "12 ", "0", "255 ", "-", "\xff", "\r"}
	for range 200000 {
		s := ""
		if r.IntN(4) > 0 {
			s = pieces[0]
		}
		for range r.IntN(6) {
			s += pieces[r.IntN(len(pieces))]
		}
		likeTheModel(t, s)
		raw := make([]byte, r.IntN(12))
		for i := range raw {
			raw[i] = byte(r.IntN(256))
		}
		likeTheModel(t, string(raw))
		likeTheModel(t, pieces[0]+string(raw)+"\n")
	}
}

// Read inverts Show, for small programs all of them.
func TestReadInvertsShow(t *testing.T) {
	small := []inst{bytes(0, 0, 0), bytes(0, 1, 0), bytes(1, 1, 0), bytes(0, 0, 1), split(0, 0), split(0, 1), split(1, 0), split(1, 1), slot(0, 0), slot(0, 1), slot(1, 0), assert(1, 0), assert(2, 0), assert(1, 1), match(), fail()}
	texts := map[string]bool{}
	for _, a := range small {
		for _, b := range small {
			for _, c := range small {
				for start := range 2 {
					for _, p := range []code{of(start, 0, a, b, c), of(start, 1, c, b, a), of(start, 2, a, b, c)} {
						inverted(t, p)
						s, _ := prog.Show(p)
						texts[s] = true
					}
				}
			}
		}
	}
	if want := 6 * len(small) * len(small) * len(small); len(texts) != want {
		t.Errorf("%d programs have %d texts", want, len(texts))
	}
}

// inverted demands that Read inverts Show for p, which is well formed.
func inverted(t *testing.T, p code) {
	t.Helper()
	s, e := prog.Show(p)
	back, again := prog.Read(s)
	if e != api.OK || again != api.OK || !equal(back, p) || !prog.Same(back, p) {
		t.Errorf("%s is shown as %q, %d, which is read as %s, %d", brief(p), cut(s), int(e), brief(back), int(again))
	}
}

// For random programs too, and for whatever strings are read.
func TestReadAndShowInBothDirections(t *testing.T) {
	r := random(4)
	for range 50000 {
		p := anyProg(r)
		inverted(t, p)
		s := modelText(p)
		for range 3 {
			i, j := r.IntN(len(s)), r.IntN(len(s))
			spoiled := s[:i] + s[j:j+1] + s[i+1:]
			likeTheModel(t, spoiled)
			if q, e := prog.Read(spoiled); e == api.OK {
				if shown, again := prog.Show(q); shown != spoiled || again != api.OK {
					t.Errorf("%q is read as %s, which is shown as %q, %d", spoiled, brief(q), shown, int(again))
				}
			}
		}
	}
	for _, n := range []int{100, 3999, 4000} {
		p := of(r.IntN(4000), r.IntN(65))
		for range n {
			p.Insts = append(p.Insts, anyInst(r))
		}
		inverted(t, p)
		likeTheModel(t, modelText(p))
		slices.Reverse(p.Insts)
		inverted(t, p)
	}
}
