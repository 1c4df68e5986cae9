package sem_test

import (
	"math"
	"slices"
	"strings"
	"testing"

	"burin/api"
	"burin/norm"
	"burin/sem"
)

// refused demands an error of both functions, and no result, whichever the search.
func refused(t *testing.T, n node, text string, at int, want api.Code) {
	t.Helper()
	if got, e := sem.Ends(n, text, at); len(got) != 0 || e != want {
		t.Errorf("Ends(%s, %q, %d) = %v, %d, want none, %d", spell(n), text, at, got, int(e), int(want))
	}
	for _, x := range asks(text, at) {
		if got, e := sem.Match(n, x); got.Ok || len(got.Slots) != 0 || e != want {
			t.Errorf("Match(%s, %+v) = %v, %d, want none, %d", spell(n), x, got, int(e), int(want))
		}
	}
}

// faults are nodes that are no cores.
func faults() []node {
	return []node{
		{}, {Kind: -1}, {Kind: 10}, {Kind: math.MaxInt}, {Kind: math.MinInt},
		{Kind: 1, Num: 1}, {Kind: 1, Subs: []node{a()}}, {Kind: 2, Max: -1}, {Kind: 2, Name: "x"}, {Kind: 4, Set: a().Set}, {Kind: 4, Lazy: true}, {Kind: 3, Set: a().Set, Num: 1}, {Kind: 3, Set: a().Set, Subs: []node{a()}}, {Kind: 5, Num: 1, Min: 1}, {Kind: 7, Num: 1, Subs: []node{a(), a()}}, {Kind: 8, Lazy: true, Subs: []node{a(), a()}}, {Kind: 9, Max: -1, Num: 1, Subs: []node{a()}},
		set(), set('b', 'a'), set('a', 'b', 'c', 'd'), set('c', 'c', 'a', 'a'), set(-1, 5), set(0, api.MaxRune+1), set(math.MinInt, math.MaxInt),
		assert(0), assert(7), assert(-1), assert(math.MaxInt), assert(math.MinInt),
		group(0, a()), group(-1, a()), group(32, a()), group(math.MaxInt, a()), group(math.MinInt, a()), {Kind: 6, Num: 1, Name: "x", Subs: []node{a()}}, {Kind: 6, Num: 1}, {Kind: 6, Num: 1, Subs: []node{a(), a()}},
		cat(), cat(a()), cat(a(), empty()), cat(empty(), a()), cat(empty(), empty()), cat(a(), cat(a(), b())), cat(cat(a(), b()), a()),
		alt(), alt(a()), alt(a(), alt(a(), b())), alt(alt(a(), b()), a()),
		star(empty()), lazy(-1, empty()), repeat(0, a()), repeat(-2, a()), repeat(1001, a()), repeat(1000, empty()), repeat(math.MaxInt, a()), repeat(math.MinInt, a()), {Kind: 9, Min: 1, Max: 1, Subs: []node{a()}}, {Kind: 9, Min: 1, Max: -1, Subs: []node{a()}}, {Kind: 9, Min: -1, Max: -1, Subs: []node{a()}}, {Kind: 9, Max: -1}, {Kind: 9, Max: -1, Subs: []node{a(), a()}},
	}
}

// offsets are from below 0 to beyond the length of a text.
func offsets(text string) []int {
	out := []int{math.MinInt, math.MinInt + 1, math.MinInt32, -1000, -2, -1}
	for at := range len(text) + 1 {
		out = append(out, at)
	}
	return append(out, len(text)+1, len(text)+2, len(text)+64, len(text)+1000, math.MaxInt32, math.MaxUint32, math.MaxUint32+1, math.MaxInt-1, math.MaxInt)
}

// What is no core is refused at any offset, with the error of Check of chapter 11.
func TestNoCores(t *testing.T) {
	for _, n := range faults() {
		for _, text := range []string{"", "a", "ab"} {
			for _, at := range offsets(text) {
				refused(t, n, text, at, api.ErrTree)
			}
		}
		for _, y := range []node{group(1, n), star(n), cat(a(), n), cat(n, a()), alt(b(), n), alt(a(), star(cat(b(), group(2, n)))), repeat(1000, group(1, n))} {
			refused(t, y, "ab", 0, api.ErrTree)
			refused(t, y, "ab", 3, api.ErrTree)
		}
	}
}

// many is a list of that many letters.
func many(x int) []node { return slices.Repeat([]node{a()}, x) }

// Limits of cores, and the order of errors: too deep, too many nodes, no core, no offset.
func TestLimitsOfCores(t *testing.T) {
	grouped := func(n node) node { return group(1, n) }
	large, small := cat(many(4000)...), cat(many(3999)...)
	deep, flat := chain(2000, a(), grouped), chain(1999, a(), grouped)
	for _, x := range []struct {
		n    node
		want api.Code
	}{
		{deep, api.ErrDeep}, {chain(2000, node{}, grouped), api.ErrDeep}, {chain(5000, a(), star), api.ErrDeep}, {cat(large, deep), api.ErrDeep}, {chain(1<<16-1, a(), grouped), api.ErrDeep},
		{large, api.ErrSize}, {cat(many(5000)...), api.ErrSize}, {cat(append(many(3999), node{})...), api.ErrSize}, {alt(many(4000)...), api.ErrSize}, {cat(append(many(2001), chain(1998, a(), grouped))...), api.ErrSize},
		{cat(append(many(2000), node{})...), api.ErrTree}, {chain(1999, node{}, grouped), api.ErrTree}, {cat(append(many(1000), cat(a(), b()))...), api.ErrTree},
	} {
		for _, at := range []int{math.MinInt, -1, 0, 1, 2} {
			refused(t, x.n, "a", at, x.want)
		}
	}
	finding(t, flat, api.Ask{Text: "ba"}, "1 2 1 2")
	finding(t, small, api.Ask{Text: strings.Repeat("a", 3999)}, "0 3999")
	finding(t, small, api.Ask{Text: strings.Repeat("a", 3998), Anchored: true}, "")
	finding(t, alt(many(3999)...), api.Ask{Text: "ba"}, "1 2")
}

// Offsets outside of the text are refused, whatever the core and the search.
func TestOffsetsOutsideTheText(t *testing.T) {
	for _, n := range []node{empty(), none(), a(), anyByte(), assert(api.AEnd), assert(api.ABegin), star(a()), cat(a(), b()), alt(a(), b()), group(1, empty()), repeat(2, a())} {
		if e := norm.Check(n); e != api.OK {
			t.Fatal(spell(n), int(e))
		}
		for _, text := range []string{"", "a", "ab", "\u00e9", strings.Repeat("a", 64), strings.Repeat("ab", 100)} {
			for _, at := range offsets(text) {
				if at < 0 || at > len(text) {
					refused(t, n, text, at, api.ErrRange)
				} else if _, e := sem.Ends(n, text, at); e != api.OK {
					t.Errorf("Ends(%s, %q, %d) is refused: %d", spell(n), text, at, int(e))
				}
			}
		}
	}
}
