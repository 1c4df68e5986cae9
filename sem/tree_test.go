package sem_test

import (
	"math/rand/v2"
	"slices"
	"testing"

	"burin/api"
	"burin/norm"
	"burin/parse"
	"burin/sem"
)

// likeTheTree demands that the core of n, a tree, has the matches that the definitions give for n.
func likeTheTree(t *testing.T, n node, text string) {
	t.Helper()
	core, e := norm.Core(n)
	if e != api.OK {
		t.Fatalf("%s has no core: %d", spell(n), int(e))
	}
	m := newModel(text)
	for at := range len(text) + 1 {
		want := ends(m.ways(&n, at))
		if got, e := sem.Ends(core, text, at); !slices.Equal(got, want) || e != api.OK {
			t.Fatalf("Ends(%s, %q, %d) = %v, %d, want %v, OK, as of %s", spell(core), text, at, got, int(e), want, spell(n))
		}
		for _, x := range asks(text, at) {
			wanted := m.search(&n, x)
			wanted.Slots = wanted.Slots[:min(len(wanted.Slots), norm.Slots(core))]
			if got, e := sem.Match(core, x); !same(got, wanted) || e != api.OK {
				t.Fatalf("Match(%s, %+v) = %v, %d, want %v, OK, as of %s", spell(core), x, got, int(e), wanted, spell(n))
			}
		}
	}
}

// number gives the groups of n their numbers.
func number(n node, last *int) node {
	if n.Kind == api.KGroup {
		*last++
		n.Num = *last
	}
	n.Subs = slices.Clone(n.Subs)
	for i, sub := range n.Subs {
		n.Subs[i] = number(sub, last)
	}
	return n
}

// numbered is n with the numbers of its groups.
func numbered(n node) node {
	last := 0
	return number(n, &last)
}

// someTree is a random tree of at most so many levels, whose groups have no numbers yet.
func someTree(random *rand.Rand, levels int) node {
	leaves := []node{a(), a(), b(), set('a', 'b'), empty(), anyByte(), none(), assert(1 + random.IntN(6))}
	k := 2 + random.IntN(8)
	if levels == 1 || k < 6 {
		return leaves[random.IntN(len(leaves))]
	}
	n := node{Kind: k}
	for range map[int]int{6: 1, 7: 2 + random.IntN(2), 8: 2 + random.IntN(2), 9: 1}[k] {
		n.Subs = append(n.Subs, someTree(random, levels-1))
	}
	if k == api.KRepeat {
		n.Min = random.IntN(3)
		n.Max = []int{-1, n.Min, n.Min + 1, n.Min + 2}[random.IntN(4)]
		n.Lazy = random.IntN(2) == 0
	}
	return n
}

func TestCoresMatchWhatTreesMatch(t *testing.T) {
	t.Parallel()
	random := rand.New(rand.NewPCG(13, 100))
	l := append(texts("ab", 4), "a\nb", "\na", "a b", "\u00e9a")
	changed := 0
	for range 15_000 {
		n := numbered(someTree(random, 2+random.IntN(4)))
		core, e := norm.Core(n)
		if e != api.OK || norm.Slots(n) > 20 {
			continue
		}
		if spelled(core) != spelled(n) {
			changed++
		}
		likeTheTree(t, n, l[random.IntN(len(l))])
	}
	if changed < 3_000 {
		t.Errorf("only %d trees differ from their cores", changed)
	}
}

// patterns are of many kinds.
var patterns = []string{
	"", "a", "ab", "a|b", "a|ab", "ab|a", "a*", "a+", "a?", "a*?", "a+?", "a??", "a{2}", "a{0}", "a{1}", "a{2,}", "a{2,}?", "a{2,4}", "a{2,4}?", "a{0,3}", "(a)", "(a)(b)", "(a|b)*", "(a|b)+", "(a|b){2}", "(a|b){1,3}?", "(a(b)?)+", "((a)|b)*", "(a)|(b)", "(?:a|(b))+", "(a*)*", "(a*)+", "(a+)+", "(a+)*", "(a?)*", "(a??)*", "(a*?)*", "(a|)*", "(|a)*", "(|a)+", "(a|){2}", "(|a){2,3}", "(a{0})*", "(?:a{0}(b))+", "(?P<x>a)(?P<y>b*)", "(a{0})b(c)?",
	"^a", "a$", "^", "$", "^$", "(?m)^a$", "(?m)^", "(?m)$", `\ba`, `a\b`, `\Ba`, `\b`, `\B`, `\Aa|b\z`, "(^a|b)*", "(a|$)+", `(\b|a)*`, "(?m)(^a?\n?)*",
	"[ab]+", "[^a]", "[^a]*b", ".", ".*", ".*?b", "(?s).", "(?s).*b", `\C`, `\C*`, "\u00e9", "[\u00e9a]+", "(?i)A", "(?i)k+", `\pL*`, `\d|\s|\w`, `[[:alpha:]]+?`, "(?U)a*", "(?U)(a+?)b", "a*ab", "(a*)(a*)", "(a*?)(a*)", "(a|ab)(c|bcd)?(d*)", "(?:(a)|(b)|(c))*", "((a*)b)*a?", "(a+|b+){0,2}", "(?:a{0,2}){2}", "((?:a?){2}){2}", "(a?){3}a{3}", "(?:(?:a|b){2}|a)*",
}

func TestPatterns(t *testing.T) {
	t.Parallel()
	l := append(texts("ab", 5), texts("abc", 3)...)
	l = append(l, texts("a\n ", 3)...)
	l = append(l, "abcd", "\u00e9a\u00e9", "Kk\u212A", "\xC3\xA9\xA9", "\U0001F600a", "a\xFFb")
	for _, s := range patterns {
		n, _, e := parse.Parse(s, 0)
		if e != api.OK {
			t.Fatalf("%s is no pattern: %d", s, int(e))
		}
		for _, text := range l {
			likeTheTree(t, n, text)
		}
	}
}

// The longest match ends no earlier than the first one, and both begin at the same offset, which is the first one from which
// there is any. They are the first end and the greatest one.
func TestFirstAndLongest(t *testing.T) {
	t.Parallel()
	random := rand.New(rand.NewPCG(13, 200))
	longer := 0
	for range 20_000 {
		s := styles[random.IntN(len(styles)-1)]
		n := someCore(random, 2+random.IntN(4), s)
		text := s.texts[random.IntN(len(s.texts))]
		from := random.IntN(len(text) + 1)
		first, _ := sem.Match(n, api.Ask{Text: text, From: from})
		longest, _ := sem.Match(n, api.Ask{Text: text, From: from, Longest: true})
		var ends []int
		at := from
		for ; at <= len(text) && len(ends) == 0; at++ {
			ends, _ = sem.Ends(n, text, at)
		}
		if first.Ok != longest.Ok || first.Ok != (len(ends) > 0) {
			t.Fatalf("%s from %d of %q: %v, %v, %v", spell(n), from, text, first, longest, ends)
		}
		if !first.Ok {
			continue
		}
		if first.Slots[0] != at-1 || first.Slots[1] != ends[0] || longest.Slots[0] != at-1 || longest.Slots[1] != slices.Max(ends) || longest.Slots[1] < first.Slots[1] {
			t.Fatalf("%s from %d of %q: %v, %v, %v", spell(n), from, text, first, longest, ends)
		}
		if longest.Slots[1] > first.Slots[1] {
			longer++
		}
	}
	if longer < 1_000 {
		t.Errorf("only %d longest matches are longer", longer)
	}
}
