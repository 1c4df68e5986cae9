package edge_test

import (
	"math"
	"strings"
	"testing"

	"burin/api"
	"burin/edge"
)

func TestNumbersOfAssertions(t *testing.T) {
	for want, kinds := range map[int][]int{
		bBegin: {api.ABegin}, bEnd: {api.AEnd}, bLine: {api.ALine}, bLineEnd: {api.ALineEnd}, bWord: {api.AWord}, bNoWord: {api.ANoWord},
		bAll: {api.ABegin, api.AEnd, api.ALine, api.ALineEnd, api.AWord, api.ANoWord},
	} {
		bits := 0
		for _, k := range kinds {
			bits |= 1 << k
		}
		if bits != want {
			t.Error(kinds, bits, want)
		}
	}
}

func TestWord(t *testing.T) {
	words := 0
	for c := range 256 {
		want := strings.Contains(wordBytes, string([]byte{byte(c)}))
		if edge.Word(c) != want {
			t.Errorf("Word(%#x) = %t", c, !want)
		}
		if edge.Word(c) {
			words++
		}
	}
	if words != 63 {
		t.Error(words, "word bytes")
	}
}

// The ends of the ranges of word bytes, and their neighbours.
func TestEndsOfWordBytes(t *testing.T) {
	for _, c := range []int{'0', '1', '8', '9', 'A', 'B', 'Y', 'Z', '_', 'a', 'b', 'y', 'z'} {
		if !edge.Word(c) {
			t.Errorf("Word(%#x) = false", c)
		}
	}
	for _, c := range []int{
		'0' - 1, '9' + 1, 'A' - 1, 'Z' + 1, '_' - 1, '_' + 1, 'a' - 1, 'z' + 1,
		0, 1, '\t', '\n', '\r', ' ', '-', '.', '$', 0x7F, 0x80, 0xAA, 0xB5, 0xC0, 0xE9, 0xFF,
	} {
		if edge.Word(c) {
			t.Errorf("Word(%#x) = true", c)
		}
	}
}

func TestWordOfNoBytes(t *testing.T) {
	for c := -70_000; c <= 70_000; c++ {
		if !isByte(c) && edge.Word(c) {
			t.Error("Word of", c)
		}
	}
	for _, c := range noBytes() {
		if edge.Word(c) {
			t.Error("Word of", c)
		}
	}
}

// Each kind of byte as the byte before (missing, a line feed, a word byte, another byte), with each as the byte after.
func TestBetweenKindsOfBytes(t *testing.T) {
	missing, feed, word, other := -1, int('\n'), int('w'), int(' ')
	for _, x := range []struct{ ahead, behind, want int }{
		{missing, missing, bBegin + bEnd + bLine + bLineEnd + bNoWord},
		{missing, feed, bBegin + bLine + bLineEnd + bNoWord},
		{missing, word, bBegin + bLine + bWord},
		{missing, other, bBegin + bLine + bNoWord},
		{feed, missing, bEnd + bLine + bLineEnd + bNoWord},
		{feed, feed, bLine + bLineEnd + bNoWord},
		{feed, word, bLine + bWord},
		{feed, other, bLine + bNoWord},
		{word, missing, bEnd + bLineEnd + bWord},
		{word, feed, bLineEnd + bWord},
		{word, word, bNoWord},
		{word, other, bWord},
		{other, missing, bEnd + bLineEnd + bNoWord},
		{other, feed, bLineEnd + bNoWord},
		{other, word, bWord},
		{other, other, bNoWord},
	} {
		if got := edge.Between(x.ahead, x.behind); got != x.want {
			t.Error(x.ahead, x.behind, got, x.want)
		}
	}
}

// The same as numbers.
func TestBetweenAsNumbers(t *testing.T) {
	for _, x := range []struct{ ahead, behind, want int }{
		{-1, -1, 94}, {-1, '\n', 90}, {-1, 'b', 42}, {-1, '!', 74}, {'\n', -1, 92}, {'\n', '\n', 88}, {'\n', 'Q', 40}, {'\n', 0, 72},
		{'7', -1, 52}, {'_', '\n', 48}, {'_', '0', 64}, {'z', '{', 32}, {255, 256, 84}, {'@', '\n', 80}, {'[', 'Z', 32}, {0, 255, 64},
		{'\r', '\n', 80}, {'\n', '\r', 72}, {256, 'a', 42}, {'a', 256, 52}, {'a', 0, 32}, {0, 'a', 32}, {0, 0, 64}, {0x80, 'a', 32}, {'a', 0xE9, 32},
		{math.MinInt, math.MaxInt, 94}, {math.MaxInt, math.MinInt, 94}, {math.MinInt, 'a', 42}, {'a', math.MaxInt, 52}, {'\n', math.MinInt, 92}, {math.MaxInt, '\n', 90},
	} {
		if got := edge.Between(x.ahead, x.behind); got != x.want {
			t.Error(x.ahead, x.behind, got, x.want)
		}
	}
}

// Every byte as the byte before and as the byte after, each with every other and with a missing one.
func TestBetweenAllBytes(t *testing.T) {
	every := append(allBytes(), -1, 256)
	for _, ahead := range every {
		for _, behind := range every {
			if got, want := edge.Between(ahead, behind), between(ahead, behind); got != want {
				t.Error(ahead, behind, got, want)
			}
		}
	}
}

// Whichever number stands for a missing byte, the assertions are the same.
func TestBetweenMissingBytes(t *testing.T) {
	none := noBytes()
	for _, x := range none {
		for _, y := range none {
			if got := edge.Between(x, y); got != 94 {
				t.Error(x, y, got)
			}
		}
		for c := range 256 {
			if got, want := edge.Between(x, c), between(-1, c); got != want {
				t.Error(x, c, got, want)
			}
			if got, want := edge.Between(c, x), between(c, -1); got != want {
				t.Error(c, x, got, want)
			}
		}
	}
	for x := -3000; x <= 3000; x++ {
		if isByte(x) {
			continue
		}
		for _, c := range []int{-1, 0, '\n', 'a', 255, 256} {
			if got, want := edge.Between(x, c), between(-1, c); got != want {
				t.Error(x, c, got, want)
			}
			if got, want := edge.Between(c, x), between(c, -1); got != want {
				t.Error(c, x, got, want)
			}
		}
	}
}

// Each assertion alone: for how many pairs of a byte or none before and a byte or none after it holds.
func TestHowOftenEachAssertionHolds(t *testing.T) {
	count := map[int]int{}
	for ahead := -1; ahead < 256; ahead++ {
		for behind := -1; behind < 256; behind++ {
			bits := edge.Between(ahead, behind)
			if bits&^bAll != 0 || bits&bWord == 0 == (bits&bNoWord == 0) {
				t.Error(ahead, behind, bits)
			}
			for k := api.ABegin; k <= api.ANoWord; k++ {
				count[k] += bits >> k & 1
			}
		}
	}
	words, others := 63, 257-63
	for k, want := range map[int]int{api.ABegin: 257, api.AEnd: 257, api.ALine: 2 * 257, api.ALineEnd: 2 * 257, api.AWord: 2 * words * others, api.ANoWord: words*words + others*others} {
		if count[k] != want {
			t.Error(k, count[k], want)
		}
	}
}
