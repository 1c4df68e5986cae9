package bands_test

import (
	"math"
	"math/rand/v2"
	"slices"
	"strings"
	"sync"
	"testing"
	"unicode/utf8"

	"burin/api"
	"burin/bands"
)

const (
	top   = api.MaxRune
	least = math.MinInt
	most  = math.MaxInt
)

type (
	list      = []api.Range
	sequences = [][]api.Range
)

// of makes a list, or a sequence, of the ends of its ranges.
func of(ends ...int) list {
	var l list
	for i := 0; i < len(ends); i += 2 {
		l = append(l, api.Range{Lo: ends[i], Hi: ends[i+1]})
	}
	return l
}

// same reports whether a and b are the same sequences.
func same(a, b sequences) bool { return slices.EqualFunc(a, b, slices.Equal) }

// isRune says whether r is a rune, by the library.
func isRune(r int) bool { return 0 <= r && r <= top && utf8.ValidRune(rune(r)) }

// spell returns the encoding of a rune, by the library.
func spell(r int) string { return string(utf8.AppendRune(nil, rune(r))) }

// span is the least and the greatest rune with the same prefix.
type span struct{ least, greatest int }

// spans returns the span of each prefix: of each encoding without its last byte, its last two and its last three.
var spans = sync.OnceValue(func() map[string]span {
	m := map[string]span{}
	for r := range top + 1 {
		if !isRune(r) {
			continue
		}
		s := spell(r)
		for n := 1; n < len(s); n++ {
			x, known := m[s[:n]]
			if !known {
				x.least = r
			}
			x.greatest = r
			m[s[:n]] = x
		}
	}
	return m
})

// modelOfWidth translates a range of runes of the same width, word by word as the document says it.
func modelOfWidth(lo, hi int) sequences {
	a, b := spell(lo), spell(hi)
	for i := 1; i <= len(a)-1; i++ {
		prefixA, lastA := a[:len(a)-i], a[len(a)-i:]
		prefixB, lastB := b[:len(b)-i], b[len(b)-i:]
		if prefixA != prefixB && lastA != strings.Repeat("\x80", i) {
			end := spans()[prefixA].greatest
			return slices.Concat(modelOfWidth(lo, end), modelOfWidth(end+1, hi))
		}
		if prefixA != prefixB && lastB != strings.Repeat("\xBF", i) {
			begin := spans()[prefixB].least
			return slices.Concat(modelOfWidth(lo, begin-1), modelOfWidth(begin, hi))
		}
	}
	var one list
	for k := range len(a) {
		one = append(one, api.Range{Lo: int(a[k]), Hi: int(b[k])})
	}
	return sequences{one}
}

// model translates any range.
func model(lo, hi int) sequences {
	var out sequences
	for _, part := range of(0, 0x7F, 0x80, 0x7FF, 0x800, 0xD7FF, 0xE000, 0xFFFF, 0x10000, 0x10FFFF) {
		if from, to := max(lo, part.Lo), min(hi, part.Hi); from <= to {
			out = append(out, modelOfWidth(from, to)...)
		}
	}
	return out
}

// members says of each integer from 0 to top whether it is in the set of l.
func members(l list) []bool {
	in := make([]bool, top+1)
	for _, x := range l {
		for r := max(x.Lo, 0); r <= min(x.Hi, top); r++ {
			in[r] = true
		}
	}
	return in
}

// modelOf translates each range of the list of the set of l.
func modelOf(l list) sequences {
	var out sequences
	in := members(l)
	for lo := 0; lo <= top; lo++ {
		if !in[lo] {
			continue
		}
		hi := lo
		for hi < top && in[hi+1] {
			hi++
		}
		out = append(out, model(lo, hi)...)
		lo = hi
	}
	return out
}

func TestSplit(t *testing.T) {
	for i, c := range []struct {
		lo, hi int
		want   sequences
	}{
		{0, 0, sequences{of(0, 0)}},
		{'a', 'z', sequences{of('a', 'z')}},
		{0, 0x7F, sequences{of(0, 0x7F)}},
		{0x7F, 0x7F, sequences{of(0x7F, 0x7F)}},
		{0x80, 0x80, sequences{of(0xC2, 0xC2, 0x80, 0x80)}},
		{0x7F, 0x80, sequences{of(0x7F, 0x7F), of(0xC2, 0xC2, 0x80, 0x80)}},
		{0x80, 0x7FF, sequences{of(0xC2, 0xDF, 0x80, 0xBF)}},
		{0xE9, 0xE9, sequences{of(0xC3, 0xC3, 0xA9, 0xA9)}},
		{0xC0, 0xFF, sequences{of(0xC3, 0xC3, 0x80, 0xBF)}},
		{0xBF, 0xFF, sequences{of(0xC2, 0xC2, 0xBF, 0xBF), of(0xC3, 0xC3, 0x80, 0xBF)}},
		{0x80, 0xC0, sequences{of(0xC2, 0xC2, 0x80, 0xBF), of(0xC3, 0xC3, 0x80, 0x80)}},
		{0x391, 0x3C9, sequences{of(0xCE, 0xCE, 0x91, 0xBF), of(0xCF, 0xCF, 0x80, 0x89)}},
		{0x7FF, 0x800, sequences{of(0xDF, 0xDF, 0xBF, 0xBF), of(0xE0, 0xE0, 0xA0, 0xA0, 0x80, 0x80)}},
		{0x800, 0xFFF, sequences{of(0xE0, 0xE0, 0xA0, 0xBF, 0x80, 0xBF)}},
		{0x1000, 0xCFFF, sequences{of(0xE1, 0xEC, 0x80, 0xBF, 0x80, 0xBF)}},
		{0x0FFF, 0x1000, sequences{of(0xE0, 0xE0, 0xBF, 0xBF, 0xBF, 0xBF), of(0xE1, 0xE1, 0x80, 0x80, 0x80, 0x80)}},
		// The first split is for the last byte, and its upper part is then split for the last two.
		{0x1001, 0x3FFF, sequences{of(0xE1, 0xE1, 0x80, 0x80, 0x81, 0xBF), of(0xE1, 0xE1, 0x81, 0xBF, 0x80, 0xBF), of(0xE2, 0xE3, 0x80, 0xBF, 0x80, 0xBF)}},
		{0x1000, 0x3FFE, sequences{of(0xE1, 0xE2, 0x80, 0xBF, 0x80, 0xBF), of(0xE3, 0xE3, 0x80, 0xBE, 0x80, 0xBF), of(0xE3, 0xE3, 0xBF, 0xBF, 0x80, 0xBE)}},
		// An end that needs no split is not split off.
		{0x1000, 0x103F, sequences{of(0xE1, 0xE1, 0x80, 0x80, 0x80, 0xBF)}},
		{0x1001, 0x103E, sequences{of(0xE1, 0xE1, 0x80, 0x80, 0x81, 0xBE)}},
		{0x1040, 0x10BF, sequences{of(0xE1, 0xE1, 0x81, 0x82, 0x80, 0xBF)}},
		{0x800, 0xD7FF, sequences{of(0xE0, 0xE0, 0xA0, 0xBF, 0x80, 0xBF), of(0xE1, 0xEC, 0x80, 0xBF, 0x80, 0xBF), of(0xED, 0xED, 0x80, 0x9F, 0x80, 0xBF)}},
		{0xD7FF, 0xE000, sequences{of(0xED, 0xED, 0x9F, 0x9F, 0xBF, 0xBF), of(0xEE, 0xEE, 0x80, 0x80, 0x80, 0x80)}},
		{0xE000, 0xFFFF, sequences{of(0xEE, 0xEF, 0x80, 0xBF, 0x80, 0xBF)}},
		{0xFFFF, 0x10000, sequences{of(0xEF, 0xEF, 0xBF, 0xBF, 0xBF, 0xBF), of(0xF0, 0xF0, 0x90, 0x90, 0x80, 0x80, 0x80, 0x80)}},
		{0x10000, 0x3FFFF, sequences{of(0xF0, 0xF0, 0x90, 0xBF, 0x80, 0xBF, 0x80, 0xBF)}},
		{0x40000, 0xFFFFF, sequences{of(0xF1, 0xF3, 0x80, 0xBF, 0x80, 0xBF, 0x80, 0xBF)}},
		{0x100000, top, sequences{of(0xF4, 0xF4, 0x80, 0x8F, 0x80, 0xBF, 0x80, 0xBF)}},
		{top, top, sequences{of(0xF4, 0xF4, 0x8F, 0x8F, 0xBF, 0xBF, 0xBF, 0xBF)}},
		{0x1F600, 0x1F64F, sequences{of(0xF0, 0xF0, 0x9F, 0x9F, 0x98, 0x98, 0x80, 0xBF), of(0xF0, 0xF0, 0x9F, 0x9F, 0x99, 0x99, 0x80, 0x8F)}},
	} {
		if got := bands.Split(c.lo, c.hi); !same(got, c.want) {
			t.Errorf("%d: Split(%X, %X) = %X, want %X", i, c.lo, c.hi, got, c.want)
		}
	}
}

// everything is what the whole of 0 to top is translated to.
var everything = sequences{
	of(0, 0x7F),
	of(0xC2, 0xDF, 0x80, 0xBF),
	of(0xE0, 0xE0, 0xA0, 0xBF, 0x80, 0xBF),
	of(0xE1, 0xEC, 0x80, 0xBF, 0x80, 0xBF),
	of(0xED, 0xED, 0x80, 0x9F, 0x80, 0xBF),
	of(0xEE, 0xEF, 0x80, 0xBF, 0x80, 0xBF),
	of(0xF0, 0xF0, 0x90, 0xBF, 0x80, 0xBF, 0x80, 0xBF),
	of(0xF1, 0xF3, 0x80, 0xBF, 0x80, 0xBF, 0x80, 0xBF),
	of(0xF4, 0xF4, 0x80, 0x8F, 0x80, 0xBF, 0x80, 0xBF),
}

func TestSplitOfEverything(t *testing.T) {
	for _, x := range of(0, top, -1, top, 0, top+1, least, most, -1, top+1) {
		if got := bands.Split(x.Lo, x.Hi); !same(got, everything) {
			t.Errorf("Split(%d, %d) = %X, want %X", x.Lo, x.Hi, got, everything)
		}
	}
}

func TestSplitOfNoRunes(t *testing.T) {
	for _, x := range of(1, 0, top, 0, most, least, 'z', 'a', 0x80, 0x7F, 0x800, 0x7FF, 0x10000, 0xFFFF, // lo is greater than hi
		-1, -1, least, -1, least, least, top+1, top+1, top+1, most, most, most, // beyond all runes
		0xD800, 0xDFFF, 0xD800, 0xD800, 0xDFFF, 0xDFFF, 0xD900, 0xDABC, // between them
		0xE000, 0xD7FF, 0xDFFF, 0xD800) {
		if got := bands.Split(x.Lo, x.Hi); len(got) != 0 {
			t.Errorf("Split(%d, %d) = %X, want none", x.Lo, x.Hi, got)
		}
	}
}

func TestSplitWithinBounds(t *testing.T) {
	for _, c := range []struct{ lo, hi, sameLo, sameHi int }{
		{-5, 5, 0, 5},
		{least, 0x7F, 0, 0x7F},
		{least, 0x800, 0, 0x800},
		{0x10FF00, top + 1, 0x10FF00, top},
		{0x1234, most, 0x1234, top},
		{0xD7F0, 0xD900, 0xD7F0, 0xD7FF},
		{0xD900, 0xE010, 0xE000, 0xE010},
		{0xD800, 0xE000, 0xE000, 0xE000},
		{0xD7FF, 0xDFFF, 0xD7FF, 0xD7FF},
	} {
		got, want := bands.Split(c.lo, c.hi), bands.Split(c.sameLo, c.sameHi)
		if len(got) == 0 || !same(got, want) {
			t.Errorf("Split(%d, %d) = %X, but Split(%d, %d) = %X", c.lo, c.hi, got, c.sameLo, c.sameHi, want)
		}
	}
}

// follows holds what Split makes of lo and hi against the model.
func follows(t *testing.T, lo, hi int) {
	t.Helper()
	if got, want := bands.Split(lo, hi), model(lo, hi); !same(got, want) {
		t.Fatalf("Split(%X, %X) = %X, want %X", lo, hi, got, want)
	}
}

// corners returns the integers at which a translation may err: near each border and near multiples of 40, 1000 and 40000 (hexadecimal).
func corners() []int {
	l := []int{least, least + 1, -top, most - 1, most}
	for _, r := range []int{0, 0x40, 0x80, 0xC0, 0x7C0, 0x800, 0x840, 0x1000, 0x1040, 0x1080, 0x2000, 0xC000, 0xD000, 0xD7C0, 0xD800, 0xDC00,
		0xE000, 0xE040, 0xF000, 0xFFC0, 0x10000, 0x10040, 0x11000, 0x11040, 0x3F000, 0x40000, 0x40040, 0x41000, 0x80000, 0xC0000, 0xFF000,
		0x100000, 0x101000, 0x10F000, 0x10FFC0, 0x110000} {
		for d := -2; d <= 1; d++ {
			l = append(l, r+d)
		}
	}
	return l
}

func TestSplitBetweenCornersFollowsTheDefinition(t *testing.T) {
	for _, lo := range corners() {
		for _, hi := range corners() {
			follows(t, lo, hi)
		}
	}
}

func TestSplitOfAllRangesAroundTheBordersFollowsTheDefinition(t *testing.T) {
	for _, border := range []int{0x80, 0x800, 0x1000, 0xD800, 0xE000, 0x10000, 0x11000, 0x40000, top + 1} {
		for lo := border - 90; lo <= border+90; lo++ {
			for hi := lo; hi <= border+90; hi++ {
				follows(t, lo, hi)
			}
		}
	}
}

func TestSplitOfManyRangesFollowsTheDefinition(t *testing.T) {
	rnd := rand.New(rand.NewPCG(5, 1))
	for _, bound := range []int{0x80, 0x900, 0x3000, 0x12000, 0x50000, top + 1} {
		for range 5000 {
			follows(t, rnd.IntN(bound), rnd.IntN(bound))
		}
	}
}

func TestSplitOfEachRune(t *testing.T) {
	for r := -10; r <= top+10; r++ {
		got := bands.Split(r, r)
		if !isRune(r) {
			if len(got) != 0 {
				t.Fatalf("Split(%X, %X) = %X, want none", r, r, got)
			}
			continue
		}
		s := spell(r)
		if len(got) != 1 || len(got[0]) != len(s) {
			t.Fatalf("Split(%X, %X) = %X, want % X", r, r, got, s)
		}
		for k, x := range got[0] {
			if b := int(s[k]); x.Lo != b || x.Hi != b {
				t.Fatalf("Split(%X, %X) = %X, want % X", r, r, got, s)
			}
		}
	}
}

// lists are of all kinds: normalized and not, of runes and of other integers.
func lists() []list {
	return []list{
		nil,
		{},
		of(0, top),
		of(least, most),
		of(most, least),
		of('a', 'z'),
		of('0', '9', 'A', 'Z', 'a', 'z'),
		of('a', 'z', 'A', 'Z', '0', '9'),
		of(5, 7, 8, 9), // they touch
		of(8, 9, 5, 7),
		of(5, 7, 6, 9), // they overlap
		of(6, 9, 5, 7),
		of(5, 9, 6, 7),
		of(5, 7, 5, 7, 5, 7),
		of(5, 7, 9, 9),
		of(7, 5, 1, 0),
		of(7, 5, 9, 9, 0, -1),
		of(-9, -1, top+1, most, 9, 8),
		of(-9, 9, top-9, most),
		of(0x7F, 0x7F, 0x80, 0x80),
		of(0x80, 0x80, 0x7F, 0x7F, 0x81, 0x7FF),
		of(0x81, 0xBF, 0xC0, 0xFF), // translated one by one, they would be two sequences
		of(0x80, 0xBE, 0xC1, 0xFF),
		of(0x80, 0xBE, 0xBF, 0xBF, 0xC0, 0x7FF),
		of(0x780, 0x87F),
		of(0xD700, 0xD7FF, 0xD800, 0xDFFF, 0xE000, 0xE100),
		of(0xD700, 0xD7FF, 0xE000, 0xE100), // they do not touch, though no rune is between them
		of(0xD700, 0xDAFF, 0xDB01, 0xE100),
		of(0xD800, 0xDFFF),
		of(0xD800, 0xD800, 0xDFFF, 0xDFFF, 0xDABC, 0xDABD),
		of(0xD801, 0xE000),
		of(0xFF00, 0xFFFF, 0x10000, 0x100FF),
		of(0x10000, 0x100FF, 0xFF00, 0xFFFF),
		of(0, 9, 0xB, top),
		of(0x10FFFF, 0x10FFFF, 0, 0),
		of(0x1F600, 0x1F64F, 0x4E00, 0x9FFF, 0x3B1, 0x3C9, 'x', 'x', 0x3B0, 0x3B0),
	}
}

func TestOf(t *testing.T) {
	for i, c := range []struct {
		l    list
		want sequences
	}{
		{nil, nil},
		{list{}, nil},
		{of(7, 5), nil},
		{of(0xD800, 0xDFFF, -9, -1, top+1, most), nil},
		{of(least, most), everything},
		{of('a', 'z', 'A', 'Z'), sequences{of('A', 'Z'), of('a', 'z')}},
		{of(8, 9, 5, 7), sequences{of(5, 9)}},
		{of(5, 7, 9, 9), sequences{of(5, 7), of(9, 9)}},
		{of(0xC0, 0x7FF, 0x80, 0xBF), sequences{of(0xC2, 0xDF, 0x80, 0xBF)}},
		{of(0x80, 0x80, 0x7F, 0x7F), sequences{of(0x7F, 0x7F), of(0xC2, 0xC2, 0x80, 0x80)}},
		{of(0xD7FF, 0xE000, 9, 9), sequences{of(9, 9), of(0xED, 0xED, 0x9F, 0x9F, 0xBF, 0xBF), of(0xEE, 0xEE, 0x80, 0x80, 0x80, 0x80)}},
		{of(0, 9, 0xB, 0x7F), sequences{of(0, 9), of(0xB, 0x7F)}},
	} {
		if got := bands.Of(c.l); !same(got, c.want) {
			t.Errorf("%d: Of(%X) = %X, want %X", i, c.l, got, c.want)
		}
	}
}

// scattered returns a list of up to n ranges around some corner, from the same seed always the same, many of which touch or overlap.
func scattered(seed uint64, n int) list {
	rnd := rand.New(rand.NewPCG(seed, 5))
	bases := []int{0, 0x80, 0x800, 0x1000, 0xD800, 0xE000, 0x10000, 0x40000, top}
	base, step := bases[rnd.IntN(len(bases))], []int{1, 0x10, 0x100}[rnd.IntN(3)]
	var l list
	for range rnd.IntN(n + 1) {
		lo := base + (rnd.IntN(60)-30)*step
		l = append(l, api.Range{Lo: lo, Hi: lo + rnd.IntN(12*step) - 3*step})
	}
	return l
}

func TestOfFollowsTheDefinition(t *testing.T) {
	all := lists()
	for seed := range uint64(400) {
		all = append(all, scattered(seed, 12))
	}
	for _, l := range all {
		if got, want := bands.Of(l), modelOf(l); !same(got, want) {
			t.Fatalf("Of(%X) = %X, want %X", l, got, want)
		}
	}
}

func TestOfOneRangeIsSplit(t *testing.T) {
	for _, lo := range corners() {
		for _, hi := range corners() {
			if got, want := bands.Of(of(lo, hi)), bands.Split(lo, hi); !same(got, want) {
				t.Fatalf("Of(%X to %X) = %X, but Split = %X", lo, hi, got, want)
			}
		}
	}
}

func TestOfAVeryLongList(t *testing.T) {
	var even list
	for r := top - 1; r >= 0; r -= 2 {
		even = append(even, api.Range{Lo: r, Hi: r})
	}
	got := bands.Of(even)
	if want := (0x110000 - 0x800) / 2; len(got) != want {
		t.Fatalf("the even runes have %d sequences, want %d", len(got), want)
	}
	if !slices.Equal(got[0], of(0, 0)) || !slices.Equal(got[0x40], of(0xC2, 0xC2, 0x80, 0x80)) || !slices.Equal(got[len(got)-1], of(0xF4, 0xF4, 0x8F, 0x8F, 0xBF, 0xBF, 0xBE, 0xBE)) {
		t.Error("the even runes are not in order")
	}
}

// deep is longer than any encoding.
var deep = of('a', 'c', 0, 0xFF, 'x', 'x', 'y', 'z', 0x80, 0xBF, 0xFF, 0xFF)

func TestLong(t *testing.T) {
	latin := sequences{of(0, 0x7F), of(0xC2, 0xC3, 0x80, 0xBF)}
	for i, c := range []struct {
		l    sequences
		s    string
		want int
	}{
		{nil, "", 0},
		{nil, "a", 0},
		{sequences{}, "a", 0},
		{latin, "", 0},
		{latin, "a", 1},
		{latin, "abc", 1},
		{latin, "\x00", 1},
		{latin, "\x7F\x80", 1},
		{latin, "\x80", 0},
		{latin, "\x80a", 0}, // only a prefix counts
		{latin, "\xC3\xA9", 2},
		{latin, "\xC3\xA9a", 2},
		{latin, "\xC3", 0}, // shorter than the sequence
		{latin, "\xC3a", 0},
		{latin, "\xC3\x7F", 0},
		{latin, "\xC3\xC0", 0},
		{latin, "\xC1\x80", 0},
		{latin, "\xC4\x80", 0},
		{latin, "\xFF", 0},
		{everything, "\xED\xA0\x80", 0},
		{everything, "\xED\x9F\xBF", 3},
		{everything, "\xF4\x8F\xBF\xBF", 4},
		{everything, "\xF4\x90\x80\x80", 0},
		{everything, "\xF4\x8F\xBF", 0},
		// Both ends of a range belong to it.
		{sequences{of('b', 'd')}, "a", 0},
		{sequences{of('b', 'd')}, "b", 1},
		{sequences{of('b', 'd')}, "c", 1},
		{sequences{of('b', 'd')}, "d", 1},
		{sequences{of('b', 'd')}, "e", 0},
		// The first sequence that matches counts, not the longest.
		{sequences{of('a', 'a'), of('a', 'a', 'b', 'b')}, "ab", 1},
		{sequences{of('a', 'a', 'b', 'b'), of('a', 'a')}, "ab", 2},
		{sequences{of('a', 'a', 'b', 'b'), of('a', 'a')}, "ac", 1},
		{sequences{of('a', 'a', 'b', 'b'), of('a', 'a')}, "a", 1},
		{sequences{of('a', 'a', 'b', 'b', 'c', 'c'), of('a', 'z', 'b', 'b'), of('a', 'a')}, "abb", 2},
		// One without ranges matches nothing, and ends nothing.
		{sequences{nil}, "", 0},
		{sequences{nil}, "a", 0},
		{sequences{{}}, "a", 0},
		{sequences{nil, of('a', 'a')}, "a", 1},
		{sequences{{}, nil, of('a', 'a', 'b', 'b')}, "abc", 2},
		{sequences{nil, of('b', 'b'), {}}, "a", 0},
		// More than four ranges.
		{sequences{deep}, "bbxz\x80\xFF", 6},
		{sequences{deep}, "bbxz\x80\xFF\xFF", 6},
		{sequences{deep}, "a\x00xyz\xFF", 0},
		{sequences{deep}, "bbxz\x80\xFE", 0},
		{sequences{deep}, "bbxz\x80", 0},
		{sequences{deep}, "bbxz", 0},
		{sequences{deep, of('b', 'b')}, "bbxz", 1},
		{sequences{deep[:5], deep}, "bbxz\x80\xFF", 5},
		// A range may be empty, and may have any ends.
		{sequences{of('d', 'b')}, "c", 0},
		{sequences{of('d', 'b')}, "d", 0},
		{sequences{of('d', 'b')}, "b", 0},
		{sequences{of('a', 'a', 'd', 'b')}, "ac", 0},
		{sequences{of('d', 'b'), of('c', 'c')}, "c", 1},
		{sequences{of(0xFF, 0)}, "\xFF", 0},
		{sequences{of(most, least)}, "a", 0},
		{sequences{of(least, most)}, "\x00", 1},
		{sequences{of(least, most)}, "\xFF", 1},
		{sequences{of(least, most)}, "", 0},
		{sequences{of(-5, 0)}, "\x00", 1},
		{sequences{of(-5, -1)}, "\xFF", 0},
		{sequences{of(0xFF, 0x1FF)}, "\xFF", 1},
		{sequences{of(0x100, 0x1FF)}, "\x00", 0},
		{sequences{of(0x161, 0x161)}, "a", 0}, // the lower eight bits are those of a
		{sequences{of(0x61-0x100, 0x61-0x100)}, "a", 0},
		{sequences{of('a', 0x100+'a')}, "z", 1},
	} {
		if got := bands.Long(c.l, c.s); got != c.want {
			t.Errorf("%d: Long(%X, %q) = %d, want %d", i, c.l, c.s, got, c.want)
		}
	}
}

// matches says by the definition whether a sequence matches a string of exactly as many bytes.
func matches(sequence list, s string) bool {
	if len(sequence) != len(s) || len(s) == 0 {
		return false
	}
	ok := true
	for k := range sequence {
		ok = ok && sequence[k].Lo <= int(s[k]) && int(s[k]) <= sequence[k].Hi
	}
	return ok
}

// modelLong finds the first sequence of l that matches a prefix of s, by trying all prefixes.
func modelLong(l sequences, s string) int {
	for _, sequence := range l {
		for n := range len(s) + 1 {
			if matches(sequence, s[:n]) {
				return n
			}
		}
	}
	return 0
}

func TestLongFollowsTheDefinition(t *testing.T) {
	rnd := rand.New(rand.NewPCG(5, 2))
	for range 20000 {
		var l sequences
		for range rnd.IntN(5) {
			var sequence list
			for range rnd.IntN(7) {
				lo := 'a' + rnd.IntN(4)
				sequence = append(sequence, api.Range{Lo: lo, Hi: lo + rnd.IntN(5) - 1})
			}
			l = append(l, sequence)
		}
		s := make([]byte, rnd.IntN(9))
		for k := range s {
			s[k] = byte('a' + rnd.IntN(5))
		}
		if got, want := bands.Long(l, string(s)), modelLong(l, string(s)); got != want {
			t.Fatalf("Long(%c, %q) = %d, want %d", l, s, got, want)
		}
	}
}

func TestLongOfMuch(t *testing.T) {
	const n = 200_000
	long := slices.Repeat(of('a', 'b'), n)
	if got := bands.Long(sequences{long}, strings.Repeat("b", n)); got != n {
		t.Errorf("a sequence of %d ranges matches %d bytes", n, got)
	}
	if got := bands.Long(sequences{long}, strings.Repeat("b", n-1)+"c"); got != 0 {
		t.Errorf("a sequence of %d ranges matches %d bytes, though the last differs", n, got)
	}
	if got := bands.Long(slices.Repeat(sequences{nil, of('b', 'a'), long}, n), "ab"); got != 0 {
		t.Errorf("sequences that match nothing match %d bytes", got)
	}
}

func TestTurn(t *testing.T) {
	for i, c := range []struct{ l, want sequences }{
		{nil, nil},
		{sequences{}, nil},
		{sequences{of(1, 2)}, sequences{of(1, 2)}},
		{sequences{of(1, 2, 3, 4)}, sequences{of(3, 4, 1, 2)}},
		{sequences{of(1, 2, 3, 4, 5, 6)}, sequences{of(5, 6, 3, 4, 1, 2)}},
		{sequences{of(1, 2, 3, 4, 5, 6, 7, 8)}, sequences{of(7, 8, 5, 6, 3, 4, 1, 2)}},
		// The sequences themselves keep their order, and their number.
		{sequences{of(1, 2, 3, 4), of(9, 9), of(5, 6, 7, 8)}, sequences{of(3, 4, 1, 2), of(9, 9), of(7, 8, 5, 6)}},
		{sequences{of(9, 9, 1, 1), of(9, 9, 1, 1)}, sequences{of(1, 1, 9, 9), of(1, 1, 9, 9)}},
		{sequences{nil}, sequences{nil}},
		{sequences{{}, of(1, 2, 3, 4), nil}, sequences{nil, of(3, 4, 1, 2), nil}},
		{sequences{deep}, sequences{of(0xFF, 0xFF, 0x80, 0xBF, 'y', 'z', 'x', 'x', 0, 0xFF, 'a', 'c')}},
		// A range itself is not turned, whatever its ends are.
		{sequences{of(2, 1, 3, 4)}, sequences{of(3, 4, 2, 1)}},
		{sequences{of(most, least, -1, 0x100)}, sequences{of(-1, 0x100, most, least)}},
		{sequences{of(0xC2, 0xDF, 0x80, 0xBF)}, sequences{of(0x80, 0xBF, 0xC2, 0xDF)}},
	} {
		got := bands.Turn(c.l)
		if !same(got, c.want) {
			t.Errorf("%d: Turn(%X) = %X, want %X", i, c.l, got, c.want)
		}
		if again := bands.Turn(got); !same(again, c.l) {
			t.Errorf("%d: turned twice, %X is %X", i, c.l, again)
		}
	}
}

func TestTurnOfMuch(t *testing.T) {
	const n = 200_000
	var long, back list
	for i := range n {
		long = append(long, api.Range{Lo: i, Hi: -i})
		back = append(back, api.Range{Lo: n - 1 - i, Hi: i - n + 1})
	}
	if got := bands.Turn(sequences{long, nil, back}); !same(got, sequences{back, nil, long}) {
		t.Error("long sequences are not turned as short ones are")
	}
}

func TestTurnedSequencesMatchBackwards(t *testing.T) {
	for _, lo := range []int{0, 0x70, 0x7FE, 0xD7FE, 0xFFFE, 0x1F600, top - 3} {
		turned := bands.Turn(bands.Split(lo, lo+0x90))
		for r := lo - 5; r <= lo+0x90+5; r++ {
			if !isRune(r) {
				continue
			}
			back := []byte(spell(r))
			slices.Reverse(back)
			want := 0
			if lo <= r && r <= lo+0x90 {
				want = len(back)
			}
			if got := bands.Long(turned, string(back)); got != want {
				t.Fatalf("% X matches as %d bytes, want %d", back, got, want)
			}
		}
	}
}

// matched returns how many strings a sequence matches.
func matched(sequence list) int {
	n := 1
	for _, x := range sequence {
		n *= max(0, x.Hi-x.Lo+1)
	}
	return n
}

// exact demands that the sequences match the encodings of the runes of which in is true, each by exactly one
// sequence, and nothing else. If each encoding is matched once and all sequences together match as many strings as
// there are encodings, there is nothing else that they match.
func exact(t *testing.T, what string, l sequences, in func(r int) bool) {
	t.Helper()
	all, runes := 0, 0
	for _, sequence := range l {
		if len(sequence) < 1 || len(sequence) > 4 {
			t.Fatalf("%s: a sequence has %d ranges", what, len(sequence))
		}
		for _, x := range sequence {
			if x.Lo < 0 || x.Lo > x.Hi || x.Hi > 0xFF {
				t.Fatalf("%s: a sequence has the range %X", what, x)
			}
		}
		all += matched(sequence)
	}
	for r := range top + 1 {
		if !isRune(r) {
			continue
		}
		s, n, want := spell(r), 0, 0
		for _, sequence := range l {
			if matches(sequence, s) {
				n++
			}
		}
		if in(r) {
			runes, want = runes+1, 1
		}
		if n != want {
			t.Fatalf("%s: %d sequences match %X, want %d", what, n, r, want)
		}
		if got := bands.Long(l, s+"\x80a"); got != want*len(s) {
			t.Fatalf("%s: Long of %X is %d, want %d", what, r, got, want*len(s))
		}
	}
	if all != runes {
		t.Fatalf("%s: %d strings are matched, but the set has %d runes", what, all, runes)
	}
}

func TestSequencesMatchExactlyTheRunesOfARange(t *testing.T) {
	for _, x := range of(0, top, least, most, 1, top-1, 0x7F, 0x801, 0x7FF, 0x10001, 0xD7FF, 0xE001, 0x1234, 0x10ABCD, 0xD800, 0xDFFF, 9, 8) {
		exact(t, "Split", bands.Split(x.Lo, x.Hi), func(r int) bool { return x.Lo <= r && r <= x.Hi })
	}
}

func TestSequencesMatchExactlyTheRunesOfASet(t *testing.T) {
	all := lists()
	for seed := range uint64(10) {
		all = append(all, scattered(1000+seed, 8))
	}
	for _, l := range all {
		in := members(l)
		exact(t, "Of", bands.Of(l), func(r int) bool { return in[r] })
	}
}

func TestNoOtherBytesMatch(t *testing.T) {
	for _, s := range []string{
		"", "\x80", "\xBF", "\xC0", "\xC1", "\xF5", "\xF8", "\xFF",
		"\xC2", "\xDF", "\xE0\xA0", "\xE1\x80", "\xED\x9F", "\xF0\x90\x80", "\xF4\x8F\xBF",
		"\xC0\x80", "\xC1\xBF", "\xC2\x7F", "\xC2\xC0", "\xDF\xFF", "\xC2a",
		"\xE0\x80\x80", "\xE0\x9F\xBF", "\xE1\x80\x7F", "\xE1\x7F\x80", "\xEF\xBF\xC0", "\xED\xA0\x80", "\xED\xBF\xBF",
		"\xF0\x80\x80\x80", "\xF0\x8F\xBF\xBF", "\xF4\x90\x80\x80", "\xF5\x80\x80\x80", "\xF1\x80\x80\xC0", "\xF1\x80\x7F\x80",
	} {
		if got := bands.Long(bands.Split(0, top), s); got != 0 {
			t.Errorf("% X is matched as %d bytes", s, got)
		}
	}
	for a := range 256 {
		for b := range 256 {
			for _, rest := range []string{"", "\x80", "\xBF\xBF", "\x80a", "\x80\x80\x80"} {
				s := string([]byte{byte(a), byte(b)}) + rest
				want := 0
				if r, n := utf8.DecodeRuneInString(s); r != utf8.RuneError || n > 1 {
					want = n
				}
				if got := bands.Long(everything, s); got != want {
					t.Fatalf("% X is matched as %d bytes, want %d", s, got, want)
				}
			}
		}
	}
}

// room returns a copy of l in front of elements that are none of the list's.
func room(l list) list {
	big := slices.Concat(l, of(0, top, 1, 1, -7, 7))
	return big[:len(l)]
}

// roomy returns a copy of l of which each sequence, and the list of them itself, has elements behind it.
func roomy(l sequences) sequences {
	var big sequences
	for _, sequence := range l {
		big = append(big, room(sequence))
	}
	big = append(big, of(0, 0xFF), of('a', 'z'))
	return big[:len(l)]
}

// whole returns a copy of l with everything that lies behind it, and behind each sequence.
func whole(l sequences) sequences {
	var out sequences
	for _, sequence := range l[:cap(l)] {
		out = append(out, slices.Clone(sequence[:cap(sequence)]))
	}
	return out
}

// spoil overwrites a list with all the memory behind it.
func spoil(l list) {
	l = l[:cap(l)]
	for i := range l {
		l[i] = api.Range{Lo: -99, Hi: -100}
	}
}

// spoilAll overwrites sequences with all the memory behind them.
func spoilAll(l sequences) {
	l = l[:cap(l)]
	for i := range l {
		spoil(l[i])
		l[i] = of(-99, -100)
	}
}

// apart demands that no two sequences share memory. It overwrites them.
func apart(t *testing.T, what string, l sequences) {
	t.Helper()
	var want sequences
	for _, sequence := range l {
		want = append(want, slices.Clone(sequence))
	}
	for i := range l {
		spoil(l[i])
		for k := range l {
			if k > i && !slices.Equal(l[k], want[k]) {
				t.Fatalf("%s: sequences %d and %d share memory", what, i, k)
			}
		}
	}
}

func TestListsAreNeitherChangedNorShared(t *testing.T) {
	for _, l := range lists() {
		x := room(l)
		full := slices.Clone(x[:cap(x)])
		first := bands.Of(x)
		want := modelOf(l)
		second := bands.Of(x)
		spoilAll(second)
		if !slices.Equal(x[:cap(x)], full) {
			t.Errorf("Of changes %X, or gives out its memory", l)
		}
		spoil(x)
		if !same(first, want) {
			t.Errorf("Of(%X): the result shares memory", l)
		}
		apart(t, "Of", first)
	}
}

func TestSequencesAreNeitherChangedNorShared(t *testing.T) {
	for _, l := range []sequences{nil, {nil}, {{}, of(1, 2)}, {of(1, 2)}, {of(1, 2, 3, 4), nil, of(5, 6)}, {deep, of(2, 1), of(least, most)}, everything} {
		x := roomy(l)
		full := whole(x)
		first := bands.Turn(x)
		var want sequences
		for _, sequence := range l {
			turned := slices.Clone(sequence)
			slices.Reverse(turned)
			want = append(want, turned)
		}
		second := bands.Turn(x)
		spoilAll(second)
		bands.Long(x, "")
		bands.Long(x, "az\x80")
		if !same(whole(x), full) {
			t.Errorf("Turn or Long changes %X, or Turn gives out its memory", l)
		}
		spoilAll(x)
		if !same(first, want) {
			t.Errorf("Turn(%X): the result shares memory", l)
		}
		apart(t, "Turn", first)
	}
}

func TestOneSequenceTwiceIsTurnedTwice(t *testing.T) {
	one := of(1, 2, 3, 4, 5, 6)
	got := bands.Turn(sequences{one, one, one[1:]})
	if want := (sequences{of(5, 6, 3, 4, 1, 2), of(5, 6, 3, 4, 1, 2), of(5, 6, 3, 4)}); !same(got, want) {
		t.Fatalf("Turn = %v, want %v", got, want)
	}
	apart(t, "Turn", got)
}

func TestSplitIsNewMemory(t *testing.T) {
	first := bands.Split(0, top)
	spoilAll(bands.Split(0, top))
	if !same(first, everything) || !same(bands.Split(0, top), everything) {
		t.Error("the results of Split share memory")
	}
	apart(t, "Split", first)
}

func TestElementsBehindASliceAreNotRead(t *testing.T) {
	if got := bands.Of(of('a', 'a', 'b', 'c')[:1]); !same(got, sequences{of('a', 'a')}) {
		t.Errorf("Of a part of a list = %v", got)
	}
	l := sequences{of('a', 'a', 'b', 'b')[:1], of('c', 'c')}
	if n, m := bands.Long(l, "ax"), bands.Long(l[:1], "c"); n != 1 || m != 0 {
		t.Errorf("Long of parts of sequences = %d, %d", n, m)
	}
	if got := bands.Turn(l[:1]); !same(got, sequences{of('a', 'a')}) {
		t.Errorf("Turn of parts of sequences = %v", got)
	}
}
