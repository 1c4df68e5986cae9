package sem_test

import (
	"slices"
	"strings"
	"testing"

	"burin/api"
	"burin/sem"
)

// down are the numbers from one to another, which is less or the same.
func down(from, to int) []int {
	var out []int
	for ; from >= to; from-- {
		out = append(out, from)
	}
	return out
}

// up are the numbers from one to another, which is greater or the same.
func up(from, to int) []int {
	out := down(to, from)
	slices.Reverse(out)
	return out
}

// listed demands the ends of a core from an offset.
func listed(t *testing.T, n node, text string, at int, want []int) {
	t.Helper()
	if got, e := sem.Ends(n, text, at); !slices.Equal(got, want) || e != api.OK {
		t.Errorf("Ends(%s, %d bytes, %d) has %d ends, %d, want %d, OK", spell(n), len(text), at, len(got), int(e), len(want))
	}
}

// Texts as long as may be, and longer ones: neither memory nor levels of calls grow beyond measure.
func TestLongTexts(t *testing.T) {
	t.Parallel()
	const long = api.MaxText
	text := strings.Repeat("a", long)
	listed(t, star(a()), text, 0, down(long, 0))
	listed(t, lazy(-1, group(1, a())), text, 5, up(5, long))
	listed(t, star(cat(a(), a())), text, long-9, []int{long - 1, long - 3, long - 5, long - 7, long - 9})
	finding(t, star(anyByte()), api.Ask{Text: text + "-more", From: 7}, "7 "+decimal(long+5))
	finding(t, cat(star(a()), star(a()), b()), api.Ask{Text: text}, "")
	finding(t, cat(repeat(2, star(a())), b()), api.Ask{Text: text}, "")
	finding(t, cat(star(star(a())), b()), api.Ask{Text: text + "b"}, "0 "+decimal(long+1))
	finding(t, star(group(1, alt(b(), a()))), api.Ask{Text: text, From: 7}, "7 "+decimal(long)+" "+decimal(long-1)+" "+decimal(long))
	finding(t, cat(lazy(-1, a()), assert(api.AEnd)), api.Ask{Text: text, Longest: true}, "0 "+decimal(long))
	finding(t, group(1, b()), api.Ask{Text: text + "b"}, decimal(long)+" "+decimal(long+1)+" "+decimal(long)+" "+decimal(long+1))
	finding(t, cat(a(), assert(api.AEnd)), api.Ask{Text: text, From: long - 3}, decimal(long-1)+" "+decimal(long))
	finding(t, b(), api.Ask{Text: text, Anchored: true}, "")
}

// Searches that fail everywhere go to each place once, not once more from each offset.
func TestSearchesThatFail(t *testing.T) {
	t.Parallel()
	text := strings.Repeat("a", 6_000)
	for _, n := range []node{
		cat(star(a()), b()), cat(star(star(star(a()))), b()), cat(star(alt(a(), cat(a(), a()))), b()), cat(star(a()), star(a()), star(a()), b()), cat(lazy(-1, group(1, star(a()))), b()), cat(repeat(20, repeat(20, a())), b()), cat(repeat(100, alt(a(), cat(a(), a()))), b()),
	} {
		finding(t, n, api.Ask{Text: text}, "")
		finding(t, n, api.Ask{Text: text, Longest: true}, "")
	}
}

// Cores as deep as may be, of each kind that has Subs.
func TestDeepCores(t *testing.T) {
	t.Parallel()
	const deep = 1999
	inGroup := func(n node) node { return group(1, n) }
	unlimited := func(n node) node { return lazy(-1, n) }
	once := func(n node) node { return repeat(1, n) }
	inTurn := func(n node) node {
		if n.Kind == api.KAlt {
			return cat(n, b())
		}
		return alt(n, c())
	}
	text := strings.Repeat("a", 50)
	finding(t, chain(deep, a(), inGroup), api.Ask{Text: "-a"}, "1 2 1 2")
	finding(t, chain(deep, none(), inGroup), api.Ask{Text: "-a"}, "")
	listed(t, chain(deep, a(), star), text, 0, down(50, 0))
	listed(t, chain(deep, a(), unlimited), text, 0, up(0, 50))
	listed(t, chain(deep, a(), once), text, 0, []int{1, 0})
	finding(t, chain(deep-1, group(1, empty()), once), api.Ask{Text: text, From: 50}, "50 50 50 50")
	finding(t, chain(deep, a(), inTurn), api.Ask{Text: "a" + strings.Repeat("b", 999)}, "0 1000")
	finding(t, chain(deep, a(), inTurn), api.Ask{Text: "a" + strings.Repeat("b", 998)}, "")
	finding(t, chain(deep, a(), inTurn), api.Ask{Text: "cbb"}, "0 3")
}

// Limits of repetitions within one another multiply: the rounds are far too many to try each of them.
func TestLimitsWithinLimits(t *testing.T) {
	t.Parallel()
	for _, levels := range []int{2, 3, 4, 10, 30, 100, 1999} {
		for _, limit := range []int{2, 3, 1000} {
			n := chain(levels, a(), func(n node) node { return repeat(limit, n) })
			shy := chain(levels, a(), func(n node) node { return lazy(limit, n) })
			for _, text := range []string{"", "a", "aaa"} {
				listed(t, n, text, 0, down(len(text), 0))
				listed(t, shy, text, 0, up(0, len(text)))
				finding(t, n, api.Ask{Text: text}, "0 "+decimal(len(text)))
				finding(t, shy, api.Ask{Text: text, Longest: true}, "0 "+decimal(len(text)))
			}
		}
	}
	// What stands behind them or around them goes on from each of their ends.
	million := repeat(1000, group(2, repeat(1000, group(1, a()))))
	finding(t, million, api.Ask{Text: "-aaa-"}, "0 0 -1 -1 0 0")
	finding(t, million, api.Ask{Text: "-aaa-", From: 1}, "1 4 3 4 4 4")
	finding(t, cat(million, a(), one('-')), api.Ask{Text: "-aaa-"}, "1 5 2 3 3 3")
	finding(t, star(alt(million, one('-'))), api.Ask{Text: "-aa-a-"}, "0 6 4 5 5 5")
	finding(t, group(3, cat(million, million)), api.Ask{Text: "aa"}, "0 2 1 2 2 2 0 2")
	finding(t, repeat(1000, group(3, cat(million, b()))), api.Ask{Text: "abaab"}, "0 5 3 4 4 4 2 5")
	finding(t, cat(lazy(1000, group(2, lazy(1000, group(1, a())))), b()), api.Ask{Text: "aab"}, "0 3 1 2 0 2")
	finding(t, repeat(1000, alt(group(1, empty()), group(2, repeat(1000, b())), a())), api.Ask{Text: "aa", Longest: true}, "0 2 0 0 -1 -1")
}

// The limit of a repetition holds, however great it is.
func TestGreatLimits(t *testing.T) {
	t.Parallel()
	text := strings.Repeat("a", 2100)
	for _, limit := range []int{1, 2, 3, 63, 64, 65, 127, 128, 500, 999, 1000} {
		listed(t, repeat(limit, a()), text, 0, down(limit, 0))
		listed(t, lazy(limit, a()), text, 3, up(3, 3+limit))
		listed(t, repeat(limit, cat(a(), a())), text, 1, slices.DeleteFunc(down(1+2*limit, 1), func(x int) bool { return x%2 == 0 }))
		listed(t, repeat(limit, alt(empty(), a())), text, 0, up(0, limit))
		finding(t, cat(assert(api.ABegin), repeat(limit, group(1, a())), b()), api.Ask{Text: text[:limit] + "b"}, "0 "+decimal(limit+1)+" "+decimal(limit-1)+" "+decimal(limit))
		finding(t, cat(assert(api.ABegin), repeat(limit, a()), b()), api.Ask{Text: text[:limit+1] + "b"}, "")
	}
	thousand := cat(repeat(1000, repeat(1000, a())), b())
	finding(t, thousand, api.Ask{Text: text[:60] + "b"}, "0 61")
	finding(t, cat(assert(api.ABegin), repeat(30, repeat(30, a())), b()), api.Ask{Text: text[:900] + "b"}, "0 901")
	finding(t, cat(assert(api.ABegin), repeat(30, repeat(30, a())), b()), api.Ask{Text: text[:901] + "b"}, "")
	finding(t, cat(assert(api.ABegin), repeat(3, group(1, repeat(4, group(2, repeat(5, a()))))), b()), api.Ask{Text: text[:60] + "b"}, "0 61 40 60 55 60")
	finding(t, cat(assert(api.ABegin), repeat(3, repeat(4, repeat(5, a()))), b()), api.Ask{Text: text[:61] + "b"}, "")
}

// As much in a row as may be: alternatives, parts, ranges.
func TestWideCores(t *testing.T) {
	var letters []node
	for r := range 3999 {
		letters = append(letters, one(0x1000+r))
	}
	row := ""
	for r := range 3999 {
		row += string(rune(0x1000 + r))
	}
	finding(t, alt(letters...), api.Ask{Text: "-\u1000"}, "1 4")
	finding(t, alt(letters...), api.Ask{Text: "-" + row[3*3998:]}, "1 4")
	finding(t, alt(letters...), api.Ask{Text: "-\u0FFF"}, "")
	finding(t, cat(letters...), api.Ask{Text: "-" + row}, "1 "+decimal(1+3*3999))
	finding(t, cat(letters...), api.Ask{Text: "-" + row[3:]}, "")
	many := node{Kind: api.KSet}
	for r := 0; r <= api.MaxRune; r += 20 {
		many.Set = append(many.Set, api.Range{Lo: r, Hi: r})
	}
	listed(t, many, string(rune(20*50_000)), 0, []int{4})
	listed(t, many, string(rune(20*50_000+1)), 0, nil)
}
