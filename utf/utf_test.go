package utf_test

import (
	"math"
	"slices"
	"strings"
	"testing"
	"unicode/utf8"

	"burin/api"
	"burin/utf"
)

// spelled lists the first and the last rune of each length, those beside the gap of the surrogates, and some between.
var spelled = []struct {
	r int
	s string
}{
	{0, "\x00"},
	{'A', "A"},
	{0x7F, "\x7F"},
	{0x80, "\xC2\x80"},
	{0xE9, "\xC3\xA9"},
	{0x7FF, "\xDF\xBF"},
	{0x800, "\xE0\xA0\x80"},
	{0x20AC, "\xE2\x82\xAC"},
	{0xD7FF, "\xED\x9F\xBF"},
	{0xE000, "\xEE\x80\x80"},
	{0xFFFD, "\xEF\xBF\xBD"},
	{0xFFFF, "\xEF\xBF\xBF"},
	{0x10000, "\xF0\x90\x80\x80"},
	{0x1F600, "\xF0\x9F\x98\x80"},
	{0x10FFFF, "\xF4\x8F\xBF\xBF"},
}

var noRunes = []int{
	-1, -2, -0x80, math.MinInt32, math.MinInt,
	0xD800, 0xD801, 0xDBFF, 0xDC00, 0xDFFE, 0xDFFF,
	0x110000, 0x110001, 0x1FFFFF, 0x200000, math.MaxInt32, 1<<32 + 'A', math.MaxInt,
}

// piece is what one step from the front finds.
type piece struct{ at, r, n int }

// pieces divides s from the front, by Go's own library.
func pieces(s string) []piece {
	var l []piece
	for at := 0; at < len(s); {
		r, n := utf8.DecodeRuneInString(s[at:])
		p := piece{at, int(r), n}
		if r == utf8.RuneError && n == 1 {
			p.r = -1
		}
		l = append(l, p)
		at += n
	}
	return l
}

// mixed calls f with every string of up to most bytes, each of which lies at an end of a range of bytes that UTF-8 tells apart.
func mixed(most int, f func(string)) {
	const ends = "\x00A\x7F\x80\x8F\x90\x9F\xA0\xBF\xC0\xC1\xC2\xDF\xE0\xE1\xEC\xED\xEE\xEF\xF0\xF1\xF3\xF4\xF5\xF7\xF8\xFB\xFC\xFE\xFF"
	var grow func(s string)
	grow = func(s string) {
		f(s)
		if len(s) < most {
			for i := range len(ends) {
				grow(s + ends[i:i+1])
			}
		}
	}
	grow("")
}

func TestWidth(t *testing.T) {
	for _, c := range spelled {
		if n := utf.Width(c.r); n != len(c.s) {
			t.Errorf("Width(%X) = %d, want %d", c.r, n, len(c.s))
		}
	}
	for _, r := range noRunes {
		if n := utf.Width(r); n != 0 {
			t.Errorf("Width(%X) = %d, want 0", r, n)
		}
	}
}

func TestEncode(t *testing.T) {
	for _, c := range spelled {
		if s, e := utf.Encode(c.r); s != c.s || e != api.OK {
			t.Errorf("Encode(%X) = % X, %d, want % X", c.r, s, e, c.s)
		}
	}
	for _, r := range noRunes {
		if s, e := utf.Encode(r); s != "" || e != api.ErrRange {
			t.Errorf("Encode(%X) = % X, %d, want ErrRange", r, s, e)
		}
	}
}

func TestEveryNumberIsEncodedAsTheLibraryDoes(t *testing.T) {
	for r := -0x100; r <= api.MaxRune+0x100; r++ {
		want, code := "", api.ErrRange
		if utf8.ValidRune(rune(r)) {
			want, code = string(rune(r)), api.OK
		}
		if s, e := utf.Encode(r); s != want || e != code || utf.Width(r) != len(want) {
			t.Fatalf("Encode(%X) = % X, %d; Width %d; want % X, %d", r, s, e, utf.Width(r), want, code)
		}
	}
}

func TestDecode(t *testing.T) {
	for _, c := range spelled {
		for _, rest := range []string{"", "x", "\x80", "\xC3\xA9", "\xFF"} {
			if r, n := utf.Decode(c.s + rest); r != c.r || n != len(c.s) {
				t.Errorf("Decode(% X) = %X, %d, want %X, %d", c.s+rest, r, n, c.r, len(c.s))
			}
		}
	}
	if r, n := utf.Decode(""); r != -1 || n != 0 {
		t.Errorf("Decode of nothing = %d, %d", r, n)
	}
}

func TestDecodeInvalid(t *testing.T) {
	for _, s := range []string{
		"\x80", "\xBF", "\x80\x80", "\xFF", "\xFE", "\xF8\x88\x80\x80\x80", // no first bytes
		"\xC0\x80", "\xC1\xBF", "\xE0\x80\x80", "\xE0\x9F\xBF", "\xF0\x80\x80\x80", "\xF0\x8F\xBF\xBF", // too long
		"\xED\xA0\x80", "\xED\xAF\xBF", "\xED\xB0\x80", "\xED\xBF\xBF", // D800 to DFFF
		"\xF4\x90\x80\x80", "\xF5\x80\x80\x80", "\xF7\xBF\xBF\xBF", // beyond 10FFFF
		"\xC3", "\xE2", "\xE2\x82", "\xF0", "\xF0\x9F", "\xF0\x9F\x98", // cut off at the end
		"\xC3x", "\xE2x\x82", "\xE2\x82x", "\xF0x\x98\x80", "\xF0\x9Fx\x80", "\xF0\x9F\x98x", // cut off by another byte
		"\xC3\xC3", "\xE2\x82\xC0", "\xF0\x9F\x98\x7F",
	} {
		if r, n := utf.Decode(s); r != -1 || n != 1 {
			t.Errorf("Decode(% X) = %X, %d, want -1, 1", s, r, n)
		}
	}
}

func TestCutOffEncodingsAreInvalid(t *testing.T) {
	for _, c := range spelled {
		for n := 1; n < len(c.s); n++ {
			if r, got := utf.Decode(c.s[:n]); r != -1 || got != 1 {
				t.Errorf("Decode(% X) = %X, %d, want -1, 1", c.s[:n], r, got)
			}
		}
	}
}

func TestMixedStringsAreDividedAsTheLibraryDoes(t *testing.T) {
	mixed(4, func(s string) {
		want := pieces(s)
		r, n := utf.Decode(s)
		if s != "" && (r != want[0].r || n != want[0].n) {
			t.Fatalf("Decode(% X) = %X, %d, want %v", s, r, n, want[0])
		}
		k := 0
		for at, r := range utf.Each(s) {
			if k == len(want) || at != want[k].at || r != want[k].r {
				t.Fatalf("Each(% X) yields %d, %X as number %d, want %v", s, at, r, k, want)
			}
			k++
		}
		if k != len(want) || utf.Count(s) != len(want) || utf.Valid(s) != utf8.ValidString(s) {
			t.Fatalf("% X: %d pieces yielded, Count %d, Valid %v, want %v", s, k, utf.Count(s), utf.Valid(s), want)
		}
	})
}

const sample = "a\xC3\xA9\xE2\x82\xAC\xFF\xF0\x9F\x98\x80\xE2\x82z"

var samplePieces = []piece{{0, 'a', 1}, {1, 0xE9, 2}, {3, 0x20AC, 3}, {6, -1, 1}, {7, 0x1F600, 4}, {11, -1, 1}, {12, -1, 1}, {13, 'z', 1}}

func TestEach(t *testing.T) {
	var got []piece
	for at, r := range utf.Each(sample) {
		got = append(got, piece{at, r, max(utf.Width(r), 1)})
	}
	if !slices.Equal(got, samplePieces) {
		t.Errorf("Each yields %v, want %v", got, samplePieces)
	}
	for at, r := range utf.Each("") {
		t.Errorf("Each of nothing yields %d, %d", at, r)
	}
}

func TestEachStopsWhereTheCallerDoes(t *testing.T) {
	seq := utf.Each(sample)
	for stop := range samplePieces {
		calls := 0
		seq(func(at, r int) bool {
			if at != samplePieces[calls].at || r != samplePieces[calls].r {
				t.Errorf("stop %d: piece %d is %d, %X, want %v", stop, calls, at, r, samplePieces[calls])
			}
			calls++
			return calls <= stop
		})
		if calls != stop+1 {
			t.Errorf("told to stop at piece %d, Each yielded %d", stop, calls)
		}
	}
}

func TestEachCanBeRangedOverAgain(t *testing.T) {
	seq := utf.Each(sample)
	for range seq {
		break
	}
	outer := 0
	for at, r := range seq {
		if want := samplePieces[outer]; at != want.at || r != want.r {
			t.Errorf("piece %d is %d, %X, want %v", outer, at, r, want)
		}
		outer++
		inner := 0
		for range seq {
			inner++
		}
		if inner != len(samplePieces) {
			t.Errorf("ranging within ranging yields %d pieces", inner)
		}
	}
	if outer != len(samplePieces) {
		t.Errorf("ranging again yields %d pieces", outer)
	}
}

func TestCountAndValid(t *testing.T) {
	for _, c := range []struct {
		s     string
		n     int
		valid bool
	}{
		{"", 0, true},
		{"\x00", 1, true},
		{"abc", 3, true},
		{"\xC3\xA9\xE2\x82\xAC\xF0\x9F\x98\x80", 3, true},
		{"\xEF\xBF\xBD", 1, true}, // the replacement rune is a rune like others
		{"\x80", 1, false},
		{"ab\xFF", 3, false},
		{"\xFFab", 3, false},
		{"a\xE2\x82b", 4, false},
		{"a\xE2\x82", 3, false},
		{"\xC0\x80", 2, false},
		{"\xED\xA0\x80", 3, false},
		{"\xF4\x90\x80\x80", 4, false},
		{sample, len(samplePieces), false},
	} {
		if n, valid := utf.Count(c.s), utf.Valid(c.s); n != c.n || valid != c.valid {
			t.Errorf("% X: Count %d, Valid %v, want %d, %v", c.s, n, valid, c.n, c.valid)
		}
	}
}

func TestBefore(t *testing.T) {
	for at, want := range []int{0, 1, 1, 2, 1, 1, 3, 1, 1, 1, 1, 4, 1, 1, 1} {
		if n := utf.Before(sample, at); n != want {
			t.Errorf("Before(sample, %d) = %d, want %d", at, n, want)
		}
	}
	for _, at := range []int{math.MinInt, -1, 0, len(sample) + 1, len(sample) + 2, math.MaxInt} {
		if n := utf.Before(sample, at); n != 0 {
			t.Errorf("Before(sample, %d) = %d, want 0", at, n)
		}
	}
	for at := -1; at <= 1; at++ {
		if n := utf.Before("", at); n != 0 {
			t.Errorf("Before of nothing at %d = %d, want 0", at, n)
		}
	}
}

func TestBeforeLooksAtNothingBehindItsOffset(t *testing.T) {
	mixed(3, func(s string) {
		for at := 1; at <= len(s); at++ {
			if whole, cut := utf.Before(s, at), utf.Before(s[:at], at); whole != cut {
				t.Fatalf("Before(% X, %d) = %d, without the rest %d", s, at, whole, cut)
			}
		}
	})
}

func TestDecodeInvertsEncodeAndRunesAreOrdered(t *testing.T) {
	last := ""
	for r := range api.MaxRune + 1 {
		s, e := utf.Encode(r)
		if e != api.OK {
			continue
		}
		if got, n := utf.Decode(s); got != r || n != len(s) {
			t.Fatalf("Decode of the encoding of %X = %X, %d", r, got, n)
		}
		if r > 0 && last >= s {
			t.Fatalf("the encoding of %X, % X, does not follow % X", r, s, last)
		}
		last = s
	}
	if last != "\xF4\x8F\xBF\xBF" {
		t.Errorf("the last encoding is % X", last)
	}
}

// fromBack divides s from the end by Before, and returns the offsets where pieces begin, the first one first.
func fromBack(t *testing.T, s string) []int {
	var l []int
	for at := len(s); at > 0; {
		n := utf.Before(s, at)
		if n < 1 || n > at {
			t.Fatalf("Before(% X, %d) = %d", s, at, n)
		}
		at -= n
		l = append(l, at)
	}
	slices.Reverse(l)
	return l
}

func TestPiecesAreTheSameFromFrontAndBack(t *testing.T) {
	same := func(s string) {
		var front []int
		for at := range utf.Each(s) {
			front = append(front, at)
		}
		if back := fromBack(t, s); !slices.Equal(front, back) {
			t.Fatalf("% X: pieces from the front begin at %v, from the back at %v", s, front, back)
		}
	}
	mixed(4, same)
	same(strings.Repeat(sample, 50))
	same("\xF0\x9F\x98\x80\x80\xF0\x9F\x98\xE2\x82\xAC\xBF\xBF\xBF\xBF\xC3\xC3\xA9\xA9")
}
