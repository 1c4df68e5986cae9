package sem_test

import (
	"slices"
	"strings"
	"testing"

	"burin/api"
	"burin/sem"
	"burin/utf"
)

// ending demands the ends of a core from an offset, and the same of cores that only wrap it.
func ending(t *testing.T, n node, text string, at int, want string) {
	t.Helper()
	for _, x := range wrapped(n) {
		got, e := sem.Ends(x, text, at)
		if !slices.Equal(got, numbers(want)) || e != api.OK {
			t.Errorf("Ends(%s, %q, %d) = %v, %d, want %s, OK", spell(x), text, at, got, int(e), want)
		}
	}
}

// wrapped are n and further cores that have the same ends.
func wrapped(n node) []node {
	out := []node{n, group(1, n), group(31, group(2, n)), alt(group(5, n), group(6, n)), alt(none(), group(1, n)), group(1, alt(group(2, n), none()))}
	if n.Kind != api.KAlt {
		out = append(out, alt(n, n), alt(none(), n, none()), alt(n, cat(group(4, n), none())))
	}
	if n.Kind != api.KCat && n.Kind != api.KEmpty {
		out = append(out, cat(group(1, empty()), n), cat(n, group(1, empty())), cat(group(3, empty()), n, group(3, empty())))
	}
	return out
}

// endings are cores, with a text, an offset and the ends.
var endings = []struct {
	n    node
	text string
	at   int
	want string
}{
	// the document's examples
	{alt(a(), cat(a(), b())), "ab", 0, "1 2"}, {star(group(1, star(a()))), "b", 0, "0"},

	// KEmpty and KNone
	{empty(), "", 0, "0"}, {empty(), "ab", 0, "0"}, {empty(), "ab", 1, "1"}, {empty(), "ab", 2, "2"}, {empty(), "\u00e9", 1, "1"},
	{none(), "", 0, ""}, {none(), "ab", 0, ""}, {none(), "ab", 1, ""}, {none(), "ab", 2, ""},

	// KSet
	{a(), "ab", 0, "1"}, {a(), "ab", 1, ""}, {a(), "ab", 2, ""}, {a(), "", 0, ""}, {b(), "ab", 1, "2"}, {a(), "aaa", 1, "2"}, {a(), "A", 0, ""},
	{set('b', 'd'), "abcde", 0, ""}, {set('b', 'd'), "abcde", 1, "2"}, {set('b', 'd'), "abcde", 2, "3"}, {set('b', 'd'), "abcde", 3, "4"}, {set('b', 'd'), "abcde", 4, ""},
	{set('a', 'a', 'c', 'd', 'x', 'z'), "abcxyz", 0, "1"}, {set('a', 'a', 'c', 'd', 'x', 'z'), "abcxyz", 1, ""}, {set('a', 'a', 'c', 'd', 'x', 'z'), "abcxyz", 2, "3"}, {set('a', 'a', 'c', 'd', 'x', 'z'), "abcxyz", 5, "6"},
	{one(0), "\x00", 0, "1"}, {set(0, '\n'), "a\n", 1, "2"}, {set(0, api.MaxRune), "a", 0, "1"}, {set(0, api.MaxRune), "\n", 0, "1"}, {set(0, api.MaxRune), "", 0, ""},

	// KSet: encodings of one to four bytes, from their beginnings alone
	{one(0x7F), "\x7F", 0, "1"}, {one(0x80), "\xC2\x80", 0, "2"}, {one(0xE9), "\u00e9", 0, "2"}, {one(0x7FF), "\xDF\xBF", 0, "2"}, {one(0x800), "\xE0\xA0\x80", 0, "3"}, {one(0x20AC), "\u20ac", 0, "3"}, {one(0xD7FF), "\xED\x9F\xBF", 0, "3"}, {one(0xE000), "\xEE\x80\x80", 0, "3"}, {one(0xFFFD), "\xEF\xBF\xBD", 0, "3"}, {one(0xFFFF), "\xEF\xBF\xBF", 0, "3"}, {one(0x10000), "\xF0\x90\x80\x80", 0, "4"}, {one(0x1F600), "\U0001F600", 0, "4"}, {one(0x10FFFF), "\xF4\x8F\xBF\xBF", 0, "4"},
	{set(0x80, api.MaxRune), "a\u00e9\u20ac\U0001F600", 0, ""}, {set(0x80, api.MaxRune), "a\u00e9\u20ac\U0001F600", 1, "3"}, {set(0x80, api.MaxRune), "a\u00e9\u20ac\U0001F600", 2, ""}, {set(0x80, api.MaxRune), "a\u00e9\u20ac\U0001F600", 3, "6"}, {set(0x80, api.MaxRune), "a\u00e9\u20ac\U0001F600", 4, ""}, {set(0x80, api.MaxRune), "a\u00e9\u20ac\U0001F600", 5, ""}, {set(0x80, api.MaxRune), "a\u00e9\u20ac\U0001F600", 6, "10"}, {set(0x80, api.MaxRune), "a\u00e9\u20ac\U0001F600", 8, ""},
	{one(0xE9), "\u00e8", 0, ""}, {one(0xE9), "\xE9", 0, ""}, {one(0xC3), "\u00e9", 0, ""}, {one(0xA9), "\u00e9", 1, ""}, {star(set(0, api.MaxRune)), "a\u00e9\u20ac", 0, "6 3 1 0"}, {lazy(-1, set(0, api.MaxRune)), "a\u00e9\u20ac", 0, "0 1 3 6"},

	// KSet: bytes that encode no rune
	{set(0, api.MaxRune), "\x80", 0, ""}, {set(0, api.MaxRune), "\xFF", 0, ""}, {set(0, api.MaxRune), "\xC3", 0, ""}, {set(0, api.MaxRune), "\xC3a", 0, ""}, {set(0, api.MaxRune), "\xC3a", 1, "2"}, {set(0, api.MaxRune), "\xC3\u00e9", 0, ""}, {set(0, api.MaxRune), "\xC3\u00e9", 1, "3"}, {set(0, api.MaxRune), "\xC0\x80", 0, ""}, {set(0, api.MaxRune), "\xC1\xBF", 0, ""}, {set(0, api.MaxRune), "\xE0\x9F\xBF", 0, ""}, {set(0, api.MaxRune), "\xED\xA0\x80", 0, ""}, {set(0, api.MaxRune), "\xED\xBF\xBF", 0, ""}, {set(0, api.MaxRune), "\xE2\x82", 0, ""}, {set(0, api.MaxRune), "\xF0\x8F\xBF\xBF", 0, ""}, {set(0, api.MaxRune), "\xF4\x90\x80\x80", 0, ""}, {set(0, api.MaxRune), "\xF0\x9F\x98", 0, ""}, {set(0, api.MaxRune), "\xF8\x88\x80\x80\x80", 0, ""},
	{set(0xD800, 0xDFFF), "\xED\xA0\x80", 0, ""}, {set(0xD800, 0xE000), "\xEE\x80\x80", 0, "3"}, {one(0xFFFD), "\xFF", 0, ""}, {star(set(0, api.MaxRune)), "ab\xFFc", 0, "2 1 0"}, {star(set(0, api.MaxRune)), "ab\xFFc", 3, "4 3"},

	// KByte
	{anyByte(), "ab", 0, "1"}, {anyByte(), "ab", 1, "2"}, {anyByte(), "ab", 2, ""}, {anyByte(), "", 0, ""}, {anyByte(), "\n", 0, "1"}, {anyByte(), "\x00", 0, "1"}, {anyByte(), "\xFF", 0, "1"}, {anyByte(), "\u00e9", 0, "1"}, {anyByte(), "\u00e9", 1, "2"}, {anyByte(), "\u00e9", 2, ""}, {star(anyByte()), "\u20aca", 0, "4 3 2 1 0"}, {cat(anyByte(), anyByte()), "\u00e9", 0, "2"}, {cat(anyByte(), anyByte()), "\u00e9", 1, ""}, {cat(anyByte(), one(0xE9)), "\xC3\u00e9", 0, "3"},

	// KAssert
	{assert(api.ABegin), "ab", 0, "0"}, {assert(api.ABegin), "ab", 1, ""}, {assert(api.ABegin), "ab", 2, ""}, {assert(api.ABegin), "\nb", 1, ""}, {assert(api.ABegin), "", 0, "0"},
	{assert(api.AEnd), "ab", 0, ""}, {assert(api.AEnd), "ab", 1, ""}, {assert(api.AEnd), "ab", 2, "2"}, {assert(api.AEnd), "a\n", 1, ""}, {assert(api.AEnd), "", 0, "0"},
	{assert(api.ALine), "a\nb", 0, "0"}, {assert(api.ALine), "a\nb", 1, ""}, {assert(api.ALine), "a\nb", 2, "2"}, {assert(api.ALine), "a\nb", 3, ""}, {assert(api.ALine), "a\n", 2, "2"},
	{assert(api.ALineEnd), "a\nb", 0, ""}, {assert(api.ALineEnd), "a\nb", 1, "1"}, {assert(api.ALineEnd), "a\nb", 2, ""}, {assert(api.ALineEnd), "a\nb", 3, "3"}, {assert(api.ALineEnd), "a\n", 2, "2"},
	{assert(api.AWord), "a b", 0, "0"}, {assert(api.AWord), "a b", 1, "1"}, {assert(api.AWord), "a b", 2, "2"}, {assert(api.AWord), "ab", 1, ""}, {assert(api.AWord), "  ", 1, ""}, {assert(api.AWord), "", 0, ""}, {assert(api.AWord), "\u00e9_", 2, "2"},
	{assert(api.ANoWord), "a b", 0, ""}, {assert(api.ANoWord), "a b", 1, ""}, {assert(api.ANoWord), "ab", 1, "1"}, {assert(api.ANoWord), "  ", 1, "1"}, {assert(api.ANoWord), "", 0, "0"}, {assert(api.ANoWord), "\u00e9", 1, "1"},
	{cat(assert(api.ABegin), a(), assert(api.AEnd)), "a", 0, "1"}, {cat(assert(api.ABegin), a(), assert(api.AEnd)), "aa", 0, ""}, {cat(a(), assert(api.ALineEnd), one('\n'), assert(api.ALine), b()), "a\nb", 0, "3"}, {cat(assert(api.AWord), assert(api.ANoWord)), "ab", 0, ""}, {star(cat(assert(api.ANoWord), anyByte())), "  a", 0, "2 1 0"},

	// KCat: each match of a Sub with each of the next one, the first way to each end alone
	{cat(a(), b()), "ab", 0, "2"}, {cat(a(), b()), "aab", 0, ""}, {cat(a(), b()), "aab", 1, "3"}, {cat(a(), b(), c()), "abc", 0, "3"}, {cat(a(), b(), c()), "abb", 0, ""}, {cat(a(), none()), "a", 0, ""}, {cat(none(), a()), "a", 0, ""}, {cat(a(), a(), a(), a()), "aaaa", 0, "4"},
	{cat(alt(a(), cat(a(), a())), alt(a(), cat(a(), a()))), "aaaa", 0, "2 3 4"}, {cat(alt(cat(a(), a()), a()), alt(a(), cat(a(), a()))), "aaaa", 0, "3 4 2"}, {cat(alt(a(), cat(a(), a())), alt(cat(a(), a()), a())), "aaaa", 0, "3 2 4"}, {cat(alt(cat(a(), a()), a()), alt(cat(a(), a()), a())), "aaaa", 0, "4 3 2"},
	{cat(star(a()), star(a())), "aaa", 0, "3 2 1 0"}, {cat(lazy(-1, a()), star(a())), "aaa", 0, "3 2 1 0"}, {cat(lazy(-1, a()), lazy(-1, a())), "aaa", 0, "0 1 2 3"}, {cat(star(a()), lazy(-1, a())), "aaa", 0, "3 2 1 0"}, {cat(repeat(1, a()), a()), "aaa", 0, "2 1"}, {cat(lazy(1, a()), a()), "aaa", 0, "1 2"}, {cat(repeat(1, a()), repeat(1, a())), "aaa", 0, "2 1 0"}, {cat(lazy(1, a()), repeat(1, a())), "aaa", 0, "1 0 2"}, {cat(repeat(1, a()), lazy(1, a())), "aaa", 0, "1 2 0"},
	{cat(star(a()), b()), "aaab", 0, "4"}, {cat(star(a()), b()), "aaa", 0, ""}, {cat(star(a()), a(), b()), "aaab", 0, "4"}, {cat(star(alt(a(), b())), b()), "abab", 0, "4 2"}, {cat(lazy(-1, alt(a(), b())), b()), "abab", 0, "2 4"},

	// KAlt: the matches of its Subs in order
	{alt(a(), b()), "ab", 0, "1"}, {alt(a(), b()), "ab", 1, "2"}, {alt(a(), b()), "c", 0, ""}, {alt(cat(a(), b()), a()), "ab", 0, "2 1"}, {alt(empty(), a(), cat(a(), b())), "ab", 0, "0 1 2"}, {alt(cat(a(), b()), empty(), a()), "ab", 0, "2 0 1"}, {alt(a(), cat(a(), b()), empty()), "ab", 0, "1 2 0"}, {alt(a(), a(), a()), "aa", 0, "1"}, {alt(empty(), empty()), "a", 1, "1"}, {alt(b(), a(), none(), anyByte(), empty(), cat(a(), a())), "aa", 0, "1 0 2"}, {alt(none(), none()), "a", 0, ""},
	{alt(star(a()), lazy(-1, b())), "aa", 0, "2 1 0"}, {alt(lazy(-1, a()), star(a())), "aa", 0, "0 1 2"}, {alt(cat(alt(empty(), a()), a()), empty()), "aa", 0, "1 2 0"},

	// KRepeat without a limit
	{star(a()), "aab", 0, "2 1 0"}, {star(a()), "aab", 1, "2 1"}, {star(a()), "aab", 2, "2"}, {star(a()), "aab", 3, "3"}, {star(a()), "", 0, "0"}, {lazy(-1, a()), "aab", 0, "0 1 2"}, {lazy(-1, a()), "aab", 2, "2"}, {star(none()), "a", 0, "0"}, {lazy(-1, none()), "a", 0, "0"}, {star(cat(a(), b())), "ababa", 0, "4 2 0"}, {star(alt(a(), b())), "abc", 0, "2 1 0"},
	{star(alt(a(), cat(a(), b()))), "aab", 0, "2 3 1 0"}, {star(alt(cat(a(), b()), a())), "aab", 0, "3 2 1 0"}, {lazy(-1, alt(a(), cat(a(), b()))), "aab", 0, "0 1 2 3"}, {lazy(-1, alt(cat(a(), b()), a())), "aba", 0, "0 2 3 1"}, {star(alt(cat(a(), a()), a())), "aaa", 0, "3 2 1 0"}, {star(alt(cat(a(), a()), cat(a(), a(), a()))), "aaaaa", 0, "4 5 2 3 0"}, {lazy(-1, alt(cat(a(), a()), cat(a(), a(), a()))), "aaaaa", 0, "0 2 4 5 3"},

	// KRepeat without a limit, of what may match the empty string: rounds that end where they begin are none
	{star(group(1, empty())), "a", 0, "0"}, {lazy(-1, group(1, empty())), "a", 0, "0"}, {star(assert(api.ABegin)), "a", 0, "0"}, {star(assert(api.AEnd)), "a", 0, "0"}, {star(alt(empty(), a())), "aa", 0, "2 1 0"}, {star(alt(a(), empty())), "aa", 0, "2 1 0"}, {lazy(-1, alt(empty(), a())), "aa", 0, "0 1 2"}, {star(star(a())), "aa", 0, "2 1 0"}, {star(lazy(-1, a())), "aaa", 0, "3 2 1 0"}, {star(lazy(-1, a())), "b", 0, "0"}, {lazy(-1, star(a())), "aaa", 0, "0 3 2 1"}, {lazy(-1, lazy(-1, a())), "aaa", 0, "0 1 2 3"}, {star(star(star(a()))), "aa", 0, "2 1 0"}, {star(repeat(1, a())), "aa", 0, "2 1 0"},
	{star(alt(empty(), cat(a(), a()), a())), "aaa", 0, "3 2 1 0"}, {star(cat(star(a()), star(b()))), "abab", 0, "4 3 2 1 0"}, {star(cat(lazy(-1, a()), lazy(-1, b()))), "aba", 0, "3 2 1 0"}, {star(alt(assert(api.AWord), a())), "aa", 0, "2 1 0"}, {star(cat(assert(api.ANoWord), repeat(1, a()))), "-aa", 0, "0"}, {star(cat(star(a()), assert(api.AEnd))), "aa", 0, "2 0"}, {star(cat(star(alt(a(), empty())), repeat(1, b()))), "abaab", 0, "5 4 3 2 1 0"},

	// KRepeat with a limit
	{repeat(1, a()), "aaa", 0, "1 0"}, {repeat(1, a()), "b", 0, "0"}, {repeat(1, a()), "", 0, "0"}, {repeat(2, a()), "aaa", 0, "2 1 0"}, {repeat(3, a()), "aaa", 0, "3 2 1 0"}, {repeat(4, a()), "aaa", 0, "3 2 1 0"}, {repeat(1000, a()), "aaa", 0, "3 2 1 0"}, {repeat(2, a()), "aaa", 2, "3 2"}, {lazy(1, a()), "aaa", 0, "0 1"}, {lazy(2, a()), "aaa", 0, "0 1 2"}, {lazy(1000, a()), "aaa", 1, "1 2 3"}, {repeat(2, cat(a(), b())), "ababab", 0, "4 2 0"}, {repeat(5, none()), "a", 0, "0"},
	{repeat(2, alt(a(), cat(a(), a()))), "aaaa", 0, "2 3 1 4 0"}, {lazy(2, alt(a(), cat(a(), a()))), "aaaa", 0, "0 1 2 3 4"}, {repeat(2, alt(cat(a(), a()), a())), "aaaa", 0, "4 3 2 1 0"}, {lazy(2, alt(cat(a(), a()), a())), "aaaa", 0, "0 2 4 3 1"}, {repeat(2, repeat(2, a())), "aaaaa", 0, "4 3 2 1 0"}, {repeat(2, lazy(2, a())), "aaaaa", 0, "0 1 2 3 4"}, {lazy(2, repeat(2, a())), "aaaaa", 0, "0 2 4 3 1"}, {repeat(2, star(a())), "aaa", 0, "3 2 1 0"}, {star(repeat(2, a())), "aaa", 0, "3 2 1 0"}, {star(lazy(2, a())), "aaa", 0, "3 2 1 0"},

	// KRepeat with a limit, of what may match the empty string: a round may be empty, and the count is used up
	{repeat(1, alt(empty(), a())), "aaa", 0, "0 1"}, {repeat(2, alt(empty(), a())), "aaa", 0, "0 1 2"}, {repeat(3, alt(empty(), a())), "aaaa", 0, "0 1 2 3"}, {repeat(1000, alt(empty(), a())), "aaaa", 0, "0 1 2 3 4"}, {repeat(2, alt(a(), empty())), "aaa", 0, "2 1 0"}, {lazy(2, alt(empty(), a())), "aaa", 0, "0 1 2"}, {repeat(2, alt(cat(a(), a()), empty(), a())), "aaaa", 0, "4 2 3 0 1"}, {repeat(2, group(1, empty())), "a", 0, "0"}, {repeat(1000, assert(api.ABegin)), "a", 0, "0"}, {repeat(2, lazy(-1, a())), "aa", 0, "0 1 2"}, {lazy(2, star(a())), "aa", 0, "0 2 1"},

	// what stands behind a repetition chooses among its matches
	{cat(star(alt(a(), cat(a(), b()))), c()), "aabc", 0, "4"}, {cat(repeat(2, a()), pair()), "aaab", 0, "4"}, {cat(repeat(1, a()), pair()), "aaab", 0, ""}, {cat(star(star(a())), b()), "aab", 0, "3"}, {cat(repeat(2, alt(empty(), a())), b()), "aab", 0, "3"}, {cat(star(repeat(2, a())), b()), "aaab", 0, "4"},
}

// pair is ab as a node that may stand in a KCat.
func pair() node { return alt(cat(a(), b()), none()) }

func TestEnds(t *testing.T) {
	for _, x := range endings {
		ending(t, x.n, x.text, x.at, x.want)
	}
}

// Where nothing looks at what surrounds it, the same text at another place has the same matches.
func TestEndsElsewhere(t *testing.T) {
	for _, x := range endings {
		if strings.Contains(spell(x.n), "assert") {
			continue
		}
		for _, before := range []string{"a", "b\n", "\u00e9", "\xC3", strings.Repeat("ab", 100)} {
			var want []string
			for _, end := range numbers(x.want) {
				want = append(want, decimal(end+len(before)))
			}
			ending(t, x.n, before+x.text, x.at+len(before), strings.Join(want, " "))
		}
	}
}

// A KSet matches each rune of its set, and nothing else.
func TestSetsAndAllRunes(t *testing.T) {
	n := set('a', 'f', 0x7F, 0x80, 0x7FE, 0x801, 0xD000, 0xE002, 0xFFFD, 0x10001, 0x10FFF0, api.MaxRune)
	for r := 0; r <= api.MaxRune; r++ {
		s, e := utf.Encode(r)
		if e != api.OK || r > 0x11000 && r < 0x10FF00 {
			continue
		}
		in := slices.ContainsFunc(n.Set, func(x api.Range) bool { return x.Lo <= r && r <= x.Hi })
		got, _ := sem.Ends(n, "-"+s+"-", 1)
		if in != (len(got) == 1) || in && got[0] != 1+len(s) {
			t.Fatalf("for %x: %v", r, got)
		}
	}
}
