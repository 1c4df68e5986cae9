package sem_test

import (
	"slices"
	"testing"

	"burin/api"
	"burin/sem"
)

// finding demands the slots that a search finds, or none.
func finding(t *testing.T, n node, x api.Ask, want string) {
	t.Helper()
	wanted := api.Found{Ok: want != "", Slots: numbers(want)}
	if got, e := sem.Match(n, x); !same(got, wanted) || e != api.OK {
		t.Errorf("Match(%s, %+v) = %v, %d, want %v, OK", spell(n), x, got, int(e), wanted)
	}
}

// searches are cores and texts with the slots of the first and of the longest match.
var searches = []struct {
	n              node
	text           string
	first, longest string
}{
	// the document's examples
	{alt(a(), cat(a(), b())), "ab", "0 1", "0 2"}, {star(group(1, star(a()))), "b", "0 0 -1 -1", "0 0 -1 -1"},

	// where a match begins and ends
	{a(), "a", "0 1", "0 1"}, {a(), "ba", "1 2", "1 2"}, {a(), "bba", "2 3", "2 3"}, {a(), "b", "", ""}, {a(), "", "", ""}, {none(), "ab", "", ""}, {empty(), "", "0 0", "0 0"}, {empty(), "ab", "0 0", "0 0"}, {assert(api.AEnd), "ab", "2 2", "2 2"}, {assert(api.ALine), "ab", "0 0", "0 0"}, {assert(api.ALineEnd), "ab\n", "2 2", "2 2"}, {cat(b(), assert(api.AEnd)), "bab", "2 3", "2 3"}, {cat(assert(api.AWord), b()), "ab b", "3 4", "3 4"}, {anyByte(), "\xFF", "0 1", "0 1"},
	{one(0xE9), "\xC3\xC3\xA9", "1 3", "1 3"}, {one(0xE9), "e\u00e8\u00e9", "3 5", "3 5"}, {one(0x1F600), "\U0001F601\U0001F600", "4 8", "4 8"}, {set(0, api.MaxRune), "\xFF\x80a", "2 3", "2 3"}, {set(0, api.MaxRune), "\xFF\x80", "", ""}, {assert(api.ANoWord), "a\u00e9", "2 2", "2 2"},
	{star(a()), "baa", "0 0", "0 0"}, {star(a()), "aab", "0 2", "0 2"}, {lazy(-1, a()), "aab", "0 0", "0 2"}, {cat(a(), lazy(-1, a())), "baab", "1 2", "1 3"}, {repeat(2, a()), "aaa", "0 2", "0 2"}, {lazy(2, a()), "aaa", "0 0", "0 2"}, {cat(star(a()), b()), "aacaab", "3 6", "3 6"},

	// the first match is the first one, the longest one is the longest of those that begin there
	{alt(a(), cat(b(), b(), b())), "abbb", "0 1", "0 1"}, {alt(a(), cat(a(), a()), empty()), "aaa", "0 1", "0 2"}, {alt(empty(), cat(a(), a())), "aaa", "0 0", "0 2"}, {alt(cat(a(), b()), a()), "ab", "0 2", "0 2"}, {star(alt(a(), cat(a(), b()))), "aab", "0 2", "0 3"}, {alt(a(), cat(a(), b(), c()), cat(a(), b())), "abc", "0 1", "0 3"},

	// groups
	{group(1, a()), "ba", "1 2 1 2", "1 2 1 2"}, {group(1, empty()), "ab", "0 0 0 0", "0 0 0 0"}, {cat(a(), group(1, b()), c()), "abc", "0 3 1 2", "0 3 1 2"}, {cat(a(), group(1, empty()), b()), "ab", "0 2 1 1", "0 2 1 1"}, {group(1, cat(a(), group(2, b()))), "ab", "0 2 0 2 1 2", "0 2 0 2 1 2"}, {cat(group(2, a()), group(1, b())), "ab", "0 2 1 2 0 1", "0 2 1 2 0 1"}, {cat(group(1, star(a())), group(2, star(a()))), "aa", "0 2 0 2 2 2", "0 2 0 2 2 2"}, {cat(group(1, lazy(-1, a())), group(2, star(a()))), "aa", "0 2 0 0 0 2", "0 2 0 0 0 2"},
	{group(1, assert(api.AEnd)), "ab", "2 2 2 2", "2 2 2 2"}, {group(1, one(0x20AC)), "a\u20ac", "1 4 1 4", "1 4 1 4"}, {group(1, star(anyByte())), "\xFF\u00e9", "0 3 0 3", "0 3 0 3"},

	// as many slots as the greatest number says; those of other numbers are not assigned
	{group(3, a()), "a", "0 1 -1 -1 -1 -1 0 1", "0 1 -1 -1 -1 -1 0 1"}, {cat(group(4, a()), group(2, b())), "ab", "0 2 -1 -1 1 2 -1 -1 0 1", "0 2 -1 -1 1 2 -1 -1 0 1"}, {alt(group(1, a()), group(2, b())), "b", "0 1 -1 -1 0 1", "0 1 -1 -1 0 1"}, {alt(group(2, a()), b()), "b", "0 1 -1 -1 -1 -1", "0 1 -1 -1 -1 -1"}, {repeat(1, group(1, a())), "b", "0 0 -1 -1", "0 0 -1 -1"}, {star(group(2, a())), "", "0 0 -1 -1 -1 -1", "0 0 -1 -1 -1 -1"}, {alt(empty(), group(1, a())), "a", "0 0 -1 -1", "0 1 0 1"}, {cat(a(), repeat(1, cat(group(1, b()), none()))), "ab", "0 1 -1 -1", "0 1 -1 -1"},

	// slots of the way that was taken alone, not of ways that were given up
	{alt(cat(group(1, a()), c()), cat(a(), group(2, b()))), "ab", "0 2 -1 -1 1 2", "0 2 -1 -1 1 2"}, {cat(star(alt(group(1, a()), group(2, b()))), b()), "ab", "0 2 0 1 -1 -1", "0 2 0 1 -1 -1"}, {cat(star(group(1, a())), a(), b()), "aaab", "0 4 1 2", "0 4 1 2"}, {cat(repeat(1, group(1, a())), a()), "a", "0 1 -1 -1", "0 1 -1 -1"},

	// the last assignment counts
	{star(group(1, a())), "aaa", "0 3 2 3", "0 3 2 3"}, {star(group(1, alt(a(), b()))), "ab", "0 2 1 2", "0 2 1 2"}, {repeat(2, group(1, a())), "aaa", "0 2 1 2", "0 2 1 2"}, {lazy(2, group(1, a())), "aaa", "0 0 -1 -1", "0 2 1 2"}, {star(alt(group(1, a()), group(2, b()))), "aba", "0 3 2 3 1 2", "0 3 2 3 1 2"}, {star(alt(group(1, a()), b())), "ab", "0 2 0 1", "0 2 0 1"}, {star(group(1, alt(group(2, a()), b()))), "ab", "0 2 1 2 0 1", "0 2 1 2 0 1"},
	{cat(group(1, a()), group(1, b())), "ab", "0 2 1 2", "0 2 1 2"}, {cat(group(1, a()), repeat(1, group(1, b()))), "a", "0 1 0 1", "0 1 0 1"}, {cat(group(1, a()), repeat(2, group(1, a()))), "aaa", "0 3 2 3", "0 3 2 3"}, {cat(group(1, a()), group(2, b()), group(1, c())), "abc", "0 3 2 3 1 2", "0 3 2 3 1 2"},
	{group(1, group(1, a())), "a", "0 1 0 1", "0 1 0 1"}, {group(1, cat(group(1, a()), b())), "ab", "0 2 0 2", "0 2 0 2"}, {group(1, cat(a(), group(1, b()))), "ab", "0 2 1 2", "0 2 1 2"}, {group(1, cat(a(), group(1, b()), c())), "abc", "0 3 1 3", "0 3 1 3"}, {group(1, alt(cat(a(), group(1, b())), a())), "a", "0 1 0 1", "0 1 0 1"},

	// rounds that match the empty string: none without a limit, one with a limit
	{star(group(1, empty())), "a", "0 0 -1 -1", "0 0 -1 -1"}, {lazy(-1, group(1, empty())), "a", "0 0 -1 -1", "0 0 -1 -1"}, {repeat(1, group(1, empty())), "a", "0 0 0 0", "0 0 0 0"}, {repeat(2, group(1, empty())), "a", "0 0 0 0", "0 0 0 0"}, {repeat(1000, group(1, empty())), "a", "0 0 0 0", "0 0 0 0"}, {lazy(1, group(1, empty())), "a", "0 0 -1 -1", "0 0 -1 -1"},
	{star(group(1, star(a()))), "aab", "0 2 0 2", "0 2 0 2"}, {star(group(1, lazy(-1, a()))), "aab", "0 2 1 2", "0 2 1 2"}, {star(group(1, alt(empty(), a()))), "aa", "0 2 1 2", "0 2 1 2"}, {repeat(3, group(1, star(a()))), "aab", "0 2 2 2", "0 2 2 2"}, {repeat(1, group(1, star(a()))), "aab", "0 2 0 2", "0 2 0 2"}, {repeat(2, group(1, star(a()))), "aab", "0 2 2 2", "0 2 2 2"}, {star(alt(group(1, a()), group(2, empty()))), "a", "0 1 0 1 -1 -1", "0 1 0 1 -1 -1"}, {repeat(2, alt(group(1, a()), group(2, empty()))), "a", "0 1 0 1 1 1", "0 1 0 1 1 1"}, {repeat(1, alt(group(1, a()), group(2, empty()))), "a", "0 1 0 1 -1 -1", "0 1 0 1 -1 -1"},
	{repeat(2, alt(group(1, empty()), group(2, a()))), "aa", "0 0 0 0 -1 -1", "0 2 -1 -1 1 2"}, {repeat(3, alt(group(1, empty()), group(2, a()))), "a", "0 0 0 0 -1 -1", "0 1 0 0 0 1"}, {star(cat(star(group(1, a())), repeat(1, group(2, b())))), "aab", "0 3 1 2 2 3", "0 3 1 2 2 3"},

	// several ways to the same end: the first one counts, also for the longest match
	{alt(group(1, a()), group(2, a())), "a", "0 1 0 1 -1 -1", "0 1 0 1 -1 -1"}, {alt(group(2, a()), group(1, a())), "a", "0 1 -1 -1 0 1", "0 1 -1 -1 0 1"}, {alt(group(1, a()), cat(group(2, a()), b())), "ab", "0 1 0 1 -1 -1", "0 2 -1 -1 0 1"}, {cat(alt(group(1, a()), cat(group(2, a()), a())), star(a())), "aaa", "0 3 0 1 -1 -1", "0 3 0 1 -1 -1"}, {cat(alt(cat(group(1, a()), a()), group(2, a())), lazy(-1, a())), "aaa", "0 2 0 1 -1 -1", "0 3 0 1 -1 -1"}, {star(alt(group(1, cat(a(), a())), group(2, a()))), "aaa", "0 3 0 2 2 3", "0 3 0 2 2 3"}, {star(alt(group(1, a()), group(2, cat(a(), a())))), "aaa", "0 3 2 3 -1 -1", "0 3 2 3 -1 -1"}, {alt(cat(lazy(-1, group(1, a())), b()), cat(star(group(2, a())), b())), "aab", "0 3 1 2 -1 -1", "0 3 1 2 -1 -1"},
	{cat(alt(group(1, empty()), group(2, empty())), a()), "a", "0 1 0 0 -1 -1", "0 1 0 0 -1 -1"}, {cat(group(1, star(a())), group(2, star(a())), b()), "aab", "0 3 0 2 2 2", "0 3 0 2 2 2"},
}

func TestSearches(t *testing.T) {
	for _, x := range searches {
		finding(t, x.n, api.Ask{Text: x.text}, x.first)
		finding(t, x.n, api.Ask{Text: x.text, Longest: true}, x.longest)
	}
}

// Searches from an offset, anchored and not. An offset is no beginning of the text: what is before it counts.
func TestSearchesFromOffsets(t *testing.T) {
	ab := alt(a(), cat(a(), b()))
	for _, x := range []struct {
		n                               node
		text                            string
		from                            int
		first, longest, there, longHere string
	}{
		{a(), "aba", 0, "0 1", "0 1", "0 1", "0 1"}, {a(), "aba", 1, "2 3", "2 3", "", ""}, {a(), "aba", 2, "2 3", "2 3", "2 3", "2 3"}, {a(), "aba", 3, "", "", "", ""}, {a(), "", 0, "", "", "", ""},
		{ab, "babab", 0, "1 2", "1 3", "", ""}, {ab, "babab", 1, "1 2", "1 3", "1 2", "1 3"}, {ab, "babab", 2, "3 4", "3 5", "", ""}, {ab, "babab", 4, "", "", "", ""},
		{empty(), "ab", 0, "0 0", "0 0", "0 0", "0 0"}, {empty(), "ab", 1, "1 1", "1 1", "1 1", "1 1"}, {empty(), "ab", 2, "2 2", "2 2", "2 2", "2 2"}, {none(), "ab", 1, "", "", "", ""},
		{star(a()), "baa", 0, "0 0", "0 0", "0 0", "0 0"}, {star(a()), "baa", 1, "1 3", "1 3", "1 3", "1 3"}, {star(a()), "baa", 3, "3 3", "3 3", "3 3", "3 3"}, {lazy(-1, a()), "baa", 1, "1 1", "1 3", "1 1", "1 3"},
		{assert(api.ABegin), "ab", 0, "0 0", "0 0", "0 0", "0 0"}, {assert(api.ABegin), "ab", 1, "", "", "", ""}, {assert(api.AEnd), "ab", 0, "2 2", "2 2", "", ""}, {assert(api.AEnd), "ab", 2, "2 2", "2 2", "2 2", "2 2"}, {assert(api.ALine), "a\nb", 1, "2 2", "2 2", "", ""}, {assert(api.ALine), "a\nb", 2, "2 2", "2 2", "2 2", "2 2"}, {assert(api.ALine), "a\nb", 3, "", "", "", ""}, {assert(api.AWord), "ab c", 1, "2 2", "2 2", "", ""}, {assert(api.ANoWord), "ab", 1, "1 1", "1 1", "1 1", "1 1"},
		{one(0xE9), "\u00e9\u00e9", 0, "0 2", "0 2", "0 2", "0 2"}, {one(0xE9), "\u00e9\u00e9", 1, "2 4", "2 4", "", ""}, {anyByte(), "\u00e9", 1, "1 2", "1 2", "1 2", "1 2"}, {anyByte(), "\u00e9", 2, "", "", "", ""},
		{cat(group(1, a()), group(2, star(b()))), "abab", 1, "2 4 2 3 3 4", "2 4 2 3 3 4", "", ""}, {cat(group(1, a()), group(2, lazy(-1, b()))), "abab", 2, "2 3 2 3 3 3", "2 4 2 3 3 4", "2 3 2 3 3 3", "2 4 2 3 3 4"}, {alt(group(1, a()), b()), "ab", 1, "1 2 -1 -1", "1 2 -1 -1", "1 2 -1 -1", "1 2 -1 -1"},
	} {
		finding(t, x.n, api.Ask{Text: x.text, From: x.from}, x.first)
		finding(t, x.n, api.Ask{Text: x.text, From: x.from, Longest: true}, x.longest)
		finding(t, x.n, api.Ask{Text: x.text, From: x.from, Anchored: true}, x.there)
		finding(t, x.n, api.Ask{Text: x.text, From: x.from, Anchored: true, Longest: true}, x.longHere)
	}
}

// Each number of a group has its two slots, and there are as many slots as the greatest number says.
func TestNumbersOfGroups(t *testing.T) {
	for num := 1; num <= 31; num++ {
		want := slices.Repeat([]int{-1}, 2*num+2)
		copy(want, []int{1, 3})
		copy(want[2*num:], []int{2, 3})
		got, e := sem.Match(cat(a(), group(num, b())), api.Ask{Text: "bab"})
		if !same(got, api.Found{Ok: true, Slots: want}) || e != api.OK {
			t.Errorf("group %d: %v, %d", num, got, int(e))
		}
		got, e = sem.Match(cat(a(), group(num, none())), api.Ask{Text: "bab"})
		if !same(got, api.Found{}) || e != api.OK {
			t.Errorf("group %d without a match: %v, %d", num, got, int(e))
		}
		for other := 1; other <= 31; other++ {
			want := slices.Repeat([]int{-1}, 2*max(num, other)+2)
			copy(want, []int{0, 3})
			copy(want[2*num:], []int{0, 1})
			copy(want[2*other:], []int{2, 3})
			got, e := sem.Match(cat(group(num, a()), b(), group(other, c())), api.Ask{Text: "abc"})
			if !same(got, api.Found{Ok: true, Slots: want}) || e != api.OK {
				t.Errorf("groups %d and %d: %v, %d", num, other, got, int(e))
			}
		}
	}
}
