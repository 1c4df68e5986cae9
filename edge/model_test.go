package edge_test

import (
	"math"
	"slices"
	"strings"
)

// The bits of the assertions, as the document numbers them: ABegin 1, AEnd 2, ALine 3, ALineEnd 4, AWord 5, ANoWord 6.
const (
	bBegin   = 2
	bEnd     = 4
	bLine    = 8
	bLineEnd = 16
	bWord    = 32
	bNoWord  = 64
	bAll     = 126
)

// wordBytes are all of them.
const wordBytes = "0123456789ABCDEFGHIJKLMNOPQRSTUVWXYZ_abcdefghijklmnopqrstuvwxyz"

// noBytes are numbers that stand for a missing byte. Many of them would be a byte if some of their bits were lost.
func noBytes() []int {
	out := []int{-1, -2, -10, -48, -95, -97, -128, -255, -256, -257, 256, 257, 258, 300, 511, 512, 1000, 0x17F, 0x212A, 0x10FFFF,
		math.MaxInt8 - 1<<8, math.MinInt16, math.MaxInt16, math.MaxUint16, math.MinInt32, math.MaxInt32, math.MaxUint32,
		math.MinInt64, math.MaxInt64, math.MinInt64 + 1, math.MaxInt64 - 1, math.MinInt64 + 10, math.MaxInt64 - 255}
	for _, c := range []int{0, '\n', '0', 'A', 'Z', '_', 'a', 'z', ' ', 255} {
		for _, lost := range []int{8, 9, 16, 31, 32, 33, 48, 62} {
			out = append(out, 1<<lost+c, -1<<lost+c)
		}
		out = append(out, math.MinInt64+c)
	}
	return slices.DeleteFunc(out, isByte)
}

// isByte reports whether c stands for a byte that is there.
func isByte(c int) bool { return 0 <= c && c <= 255 }

// allBytes returns the numbers 0 to 255.
func allBytes() []int {
	var out []int
	for c := range 256 {
		out = append(out, c)
	}
	return out
}

// isWord reports whether a word byte is there.
func isWord(c int) bool { return isByte(c) && strings.IndexByte(wordBytes, byte(c)) >= 0 }

// between returns the assertions that hold between two bytes, definition by definition.
func between(ahead, behind int) int {
	bits := 0
	if !isByte(ahead) {
		bits += bBegin
	}
	if !isByte(behind) {
		bits += bEnd
	}
	if !isByte(ahead) || ahead == 0xA {
		bits += bLine
	}
	if !isByte(behind) || behind == 0xA {
		bits += bLineEnd
	}
	if isWord(ahead) != isWord(behind) {
		return bits + bWord
	}
	return bits + bNoWord
}

// at returns the assertions that hold at each offset of text, from its front to its end.
func at(text string) []int {
	neighbours := []int{-1}
	for i := range len(text) {
		neighbours = append(neighbours, int(text[i]))
	}
	neighbours = append(neighbours, -1)
	var out []int
	for i := range len(text) + 1 {
		out = append(out, between(neighbours[i], neighbours[i+1]))
	}
	return out
}

// texts returns all texts of up to that many of the letters.
func texts(letters string, longest int) []string {
	out := []string{""}
	for first := 0; longest > 0; longest-- {
		next := len(out)
		for _, s := range out[first:next] {
			for i := range len(letters) {
				out = append(out, s+letters[i:i+1])
			}
		}
		first = next
	}
	return out
}

// mirrored returns the text with its bytes in the other order.
func mirrored(text string) string {
	b := []byte(text)
	slices.Reverse(b)
	return string(b)
}

// samples are texts of many kinds: all short ones of some bytes, and longer ones.
func samples() []string {
	out := texts("aZ\n", 6)
	out = append(out, texts("a_9\n ", 4)...)
	out = append(out, texts("/09:@AZ[^_`az{", 3)...)
	out = append(out, texts("a\n\r\x00\x7F\x80\xAA\xC3\xDF\xFF", 3)...)
	for c := range 256 {
		s := string([]byte{byte(c)})
		out = append(out, s, s+s, s+"a", "a"+s, s+"\n", "\n"+s, s+" ", " "+s, "a"+s+"a", "\n"+s+"\n", "-"+s+"-", s+"x\n"+s)
	}
	return append(out, "The quick brown fox\njumps over\r\n\r\nthe lazy dog.\n", "snake_case CamelCase kebab-case\n_\n-\n", "\n\n\n\n\n\n\n\n",
		"caf\u00e9 \u00e9tude na\u00efve \u4e16\u754c \U0001F600 \u017F\u212A", "\xEF\xBB\xBFbom", "\xE4\xB8", "a\u2028b\u0085c\vd\fe", strings.Repeat("ab c\n", 50), wordBytes, " "+wordBytes+" ")
}
