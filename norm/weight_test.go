package norm_test

import (
	"math"
	"slices"
	"strconv"
	"testing"

	"burin/api"
	"burin/norm"
	check "burin/tree"
)

// heaviest is the greatest weight that a tree with a core has.
const heaviest = 4000

// weighs demands the weight of a node, which is clamped.
func weighs(t *testing.T, n node, want int) {
	t.Helper()
	if got := norm.Weight(n); got != min(want, heaviest+1) {
		t.Errorf("Weight(%s) = %d, want %d", cut(text(n)), got, min(want, heaviest+1))
	}
}

// load is a node and its weight.
type load struct {
	n      node
	weight int
}

// loads are trees with their weights.
var loads = []load{
	{empty(), 1}, {none(), 1}, {a(), 1}, {set('a', 'b', 'd', 'd', 'x', 'z'), 1}, {set(0, api.MaxRune), 1}, {anyByte(), 1}, {assert(1), 1}, {assert(6), 1},
	{group(1, a()), 2}, {named(1, "x", a()), 2}, {group(1, group(2, a())), 3}, {group(1, cat(a(), b())), 4}, {group(1, alt(a(), b())), 4}, {group(1, star(a())), 4},
	{cat(a(), b()), 3}, {cat(a(), b(), c()), 4}, {cat(empty(), empty()), 3}, {cat(none(), anyByte(), assert(2), a()), 5}, {cat(cat(a(), b()), c()), 5}, {cat(cat(a(), b()), cat(b(), c())), 7}, {cat(a(), alt(b(), c())), 5}, {cat(group(1, a()), star(b())), 6},
	{alt(a(), b()), 3}, {alt(a(), b(), c()), 4}, {alt(empty(), empty()), 3}, {alt(none(), anyByte(), assert(2), a()), 5}, {alt(alt(a(), b()), c()), 5}, {alt(a(), cat(b(), c())), 5}, {alt(group(1, a()), star(b())), 6},

	{never(a()), 1}, {lazy(0, 0, a()), 1}, {never(cat(a(), b())), 1}, {never(never(a())), 1}, {never(repeat(1000, -1, a())), 1}, {never(group(1, a())), 1},
	{alone(a()), 2}, {lazy(1, 1, a()), 2}, {alone(cat(a(), b())), 4}, {repeat(2, 2, a()), 3}, {repeat(3, 3, alt(a(), b())), 10}, {repeat(1000, 1000, a()), 1001}, {repeat(1000, 1000, empty()), 1001}, {repeat(5, 5, never(a())), 6},
	{star(a()), 3}, {lazy(0, -1, a()), 3}, {star(empty()), 3}, {star(cat(a(), b())), 5}, {repeat(1, -1, a()), 4}, {lazy(2, -1, a()), 5}, {repeat(2, -1, alt(a(), b())), 11}, {repeat(1000, -1, a()), 1003}, {star(never(a())), 3},
	{repeat(0, 1, a()), 4}, {lazy(0, 1, a()), 4}, {repeat(0, 2, a()), 7}, {repeat(0, 1, cat(a(), b())), 6}, {repeat(0, 2, cat(a(), b())), 11}, {repeat(0, 1000, a()), 3001}, {repeat(0, 1000, empty()), 3001}, {repeat(0, 3, never(a())), 10},
	{repeat(1, 2, a()), 5}, {repeat(2, 4, a()), 9}, {lazy(2, 4, a()), 9}, {repeat(2, 3, cat(a(), b())), 12}, {repeat(1, 3, group(1, a())), 11}, {repeat(999, 1000, a()), 1003}, {repeat(500, 1000, a()), 2001}, {repeat(1, 1000, empty()), 2999},
	{star(star(a())), 5}, {repeat(2, 2, repeat(3, 3, a())), 9}, {repeat(2, 2, repeat(2, 2, repeat(2, 2, a()))), 15}, {repeat(1, -1, repeat(1, -1, a())), 10}, {repeat(0, 2, repeat(0, 2, a())), 19}, {repeat(0, 1, star(a())), 6}, {repeat(31, 31, repeat(31, 31, a())), 993},

	// too heavy
	{repeat(0, 1000, group(1, a())), 4001}, {repeat(1000, 1000, alt(a(), b(), c())), 4001}, {repeat(1000, -1, cat(a(), b(), c())), 4006}, {repeat(1000, 1000, repeat(1000, 1000, a())), 1001001}, {repeat(0, 1000, repeat(0, 1000, a())), 3003001}, {cat(letters(4000)...), 4001}, {alt(letters(100_000)...), 100_001},
}

func TestWeight(t *testing.T) {
	for _, x := range loads {
		weighs(t, x.n, x.weight)
	}
	for _, x := range all() {
		weighs(t, x.n, modelWeight(x.n))
	}
}

// around are nodes of every kind that have n as a part, with their weights if n has that weight.
func around(n node, weight int) []load {
	return []load{
		{group(1, n), 1 + weight}, {named(7, "x", n), 1 + weight},
		{cat(n, a()), 2 + weight}, {cat(a(), n), 2 + weight}, {cat(a(), n, b()), 3 + weight}, {cat(n, n), 1 + 2*weight},
		{alt(n, a()), 2 + weight}, {alt(a(), n), 2 + weight}, {alt(a(), n, b()), 3 + weight}, {alt(n, n), 1 + 2*weight},
		{never(n), 1}, {lazy(0, 0, n), 1}, {alone(n), 1 + weight}, {repeat(3, 3, n), 1 + 3*weight},
		{star(n), 2 + weight}, {lazy(1, -1, n), 2 + 2*weight}, {repeat(4, -1, n), 2 + 5*weight},
		{repeat(0, 1, n), 3 + weight}, {lazy(0, 5, n), 11 + 5*weight}, {repeat(1, 2, n), 3 + 2*weight}, {repeat(3, 7, n), 9 + 7*weight},
	}
}

func TestWeightsOfParts(t *testing.T) {
	for _, x := range loads {
		for _, y := range around(x.n, x.weight) {
			weighs(t, y.n, y.weight)
			for _, z := range around(y.n, y.weight) {
				weighs(t, z.n, z.weight)
			}
		}
	}
}

// filled makes a KCat of n and letters that has that weight, which must be greater than that of n by 2 or more.
func filled(n node, weight int) node {
	return cat(append([]node{n}, letters(weight-1-norm.Weight(n))...)...)
}

func TestTheGreatestWeight(t *testing.T) {
	for _, x := range loads {
		if x.weight > heaviest-5 {
			continue
		}
		for weight := heaviest - 1; weight <= heaviest+2; weight++ {
			n := filled(x.n, weight)
			weighs(t, n, weight)
			if weight > heaviest {
				refused(t, n, api.ErrSize)
			} else if _, e := norm.Core(n); e != api.OK {
				t.Errorf("%d for a tree of weight %d", int(e), weight)
			}
		}
	}
	for _, x := range []load{
		{cat(letters(3999)...), 4000}, {alt(letters(3999)...), 4000}, {group(1, cat(letters(3998)...)), 4000}, {alone(alt(letters(3998)...)), 4000}, {star(cat(letters(3997)...)), 4000}, {repeat(2, 2, alone(cat(letters(1998)...))), 4001}, {repeat(3, 3, cat(letters(1332)...)), 4000}, {repeat(3, 3, alt(letters(1333)...)), 4003},
		{repeat(0, 1, cat(letters(3996)...)), 4000}, {repeat(0, 1, cat(letters(3997)...)), 4001}, {repeat(1, -1, cat(letters(1998)...)), 4000}, {repeat(1, -1, alone(cat(letters(1998)...))), 4002}, {repeat(0, 3, alone(cat(letters(1329)...))), 4000}, {repeat(0, 3, cat(letters(1331)...)), 4003}, {repeat(43, 43, repeat(92, 92, a())), 4000}, {alone(repeat(43, 43, repeat(92, 92, a()))), 4001},
	} {
		weighs(t, x.n, x.weight)
		if x.weight > heaviest {
			refused(t, x.n, api.ErrSize)
			continue
		}
		y, e := norm.Core(x.n)
		if e != api.OK {
			t.Errorf("Core(%s): %d", cut(text(x.n)), int(e))
		}
		followed(t, x.n, y)
	}
}

// A core may have exactly as many nodes as its tree weighs, and as many as a core may have.
func TestTheGreatestCore(t *testing.T) {
	for _, n := range []node{cat(letters(3999)...), alt(letters(3999)...), group(1, alt(letters(3998)...)), alt(append(letters(3997), group(1, a()))...)} {
		cored(t, n, n)
		if size := modelSize(n); size != heaviest {
			t.Errorf("%d nodes", size)
		}
	}
}

// Weights that would be far greater than any number, and those that would be small again if they were not clamped.
func TestWeightsBeyondAllNumbers(t *testing.T) {
	wraps := map[string]func(node) node{
		"a{2}":      func(n node) node { return repeat(2, 2, n) },
		"a{4}":      func(n node) node { return repeat(4, 4, n) },
		"a{0,2}":    func(n node) node { return repeat(0, 2, n) },
		"a{1000}":   func(n node) node { return repeat(1000, 1000, n) },
		"a{0,1000}": func(n node) node { return repeat(0, 1000, n) },
		"a{1000,}":  func(n node) node { return repeat(1000, -1, n) },
		"a+":        func(n node) node { return repeat(1, -1, n) },
		"aa":        func(n node) node { return repeat(2, 2, cat(n, n)) },
	}
	for name, wrap := range wraps {
		if name == "aa" {
			weighs(t, chain(8, a(), wrap), heaviest+1)
			continue
		}
		for _, levels := range []int{13, 31, 32, 33, 63, 64, 65, 128, 500, 999} {
			n := chain(levels, a(), wrap)
			weighs(t, n, heaviest+1)
			refused(t, n, api.ErrSize)
			refused(t, cat(a(), n, empty()), map[bool]api.Code{true: api.ErrDeep, false: api.ErrSize}[levels == 999])
		}
	}
	some := []int{0, 1, 2, 3, 4, 1000, 1001, 4000, 4001, 4002, 1 << 16, 1<<31 - 1, 1 << 31, 1 << 32, 1<<32 + 1, 1 << 61, 1 << 62, 1<<62 + 1, math.MaxInt / 3, math.MaxInt - 1, math.MaxInt, -1, -2, -1000, -1 << 32, math.MinInt + 1, math.MinInt}
	for _, low := range some {
		for _, high := range some {
			for _, subs := range [][]node{nil, {a()}, {group(1, a())}, {cat(a(), b())}, {a(), b()}, {cat(a()), cat(a(), b(), c())}, letters(6), letters(64), {repeat(1<<32, 1<<32, a())}, {repeat(0, 1<<62, a()), a()}} {
				n := node{Kind: 9, Min: low, Max: high, Subs: subs}
				weighs(t, n, modelWeight(n))
				weighs(t, cat(n), modelWeight(cat(n)))
				weighs(t, repeat(2, 3, n), modelWeight(repeat(2, 3, n)))
			}
		}
	}
}

// Nodes that chapter 6 rejects.
func TestWeightsOfNodesThatAreNoTrees(t *testing.T) {
	within := func(low, high int, subs ...node) node { return node{Kind: 9, Min: low, Max: high, Subs: subs} }
	for _, x := range []load{
		// a negative Min
		{repeat(-1, -1, a()), 3}, {repeat(-1, 0, a()), 1}, {repeat(-1, 1, a()), 4}, {repeat(-1, 3, a()), 10}, {repeat(-1000, 1, a()), 4}, {repeat(-1000, 1000, a()), 3001}, {repeat(math.MinInt, -1, cat(a(), b())), 5}, {repeat(math.MinInt, 0, a()), 1}, {repeat(math.MinInt, 2, a()), 7},
		// a Max that is neither -1 nor greater than Min and 0
		{repeat(0, -2, a()), 1}, {repeat(1, -2, a()), 2}, {repeat(3, 2, a()), 4}, {repeat(3, 1, a()), 4}, {repeat(3, 0, a()), 4}, {repeat(3, -2, cat(a(), b())), 10}, {repeat(-5, -3, a()), 1}, {repeat(-3, -5, a()), 1}, {repeat(-5, -5, a()), 1}, {repeat(-2, 0, a()), 1}, {repeat(0, math.MinInt, a()), 1}, {repeat(2, math.MinInt, a()), 3}, {repeat(math.MinInt, math.MinInt, a()), 1}, {repeat(-3, -2, cat(a(), b())), 1},
		// numbers that are too great
		{repeat(1001, 1001, a()), 1002}, {repeat(3999, 3999, a()), 4000}, {repeat(4000, 4000, a()), 4001}, {repeat(1001, 1002, a()), 1005}, {repeat(0, 1333, a()), 4000}, {repeat(3996, -1, a()), 3999}, {repeat(3997, -1, a()), 4000}, {repeat(3998, -1, a()), 4001}, {repeat(math.MaxInt, math.MaxInt, a()), 4001},
		// no Sub
		{group(1, a()), 2}, {kind(6), 1}, {kind(7), 1}, {kind(8), 1}, {within(0, 0), 1}, {within(1, 1), 1}, {within(1000, 1000), 1}, {within(math.MaxInt, math.MaxInt), 1}, {within(0, -1), 2}, {within(1000, -1), 2}, {within(math.MaxInt, -1), 2}, {within(0, 1), 3}, {within(0, 3), 7}, {within(5, 8), 7}, {within(5000, 5001), 3}, {within(5000, 5010), 21}, {within(math.MaxInt-1, math.MaxInt), 3}, {within(0, 1999), 3999}, {within(0, 2000), 4001}, {within(math.MinInt, math.MaxInt), 4001}, {within(-7, 2), 5},
		// one Sub, or several
		{kind(7, a()), 2}, {kind(8, a()), 2}, {kind(6, a(), b()), 3}, {kind(6, a(), cat(b(), c()), c()), 6}, {within(0, 0, a(), b()), 1}, {within(1, 1, a(), b()), 3}, {within(3, 3, a(), b(), c()), 10}, {within(0, -1, a(), b()), 4}, {within(2, -1, a(), cat(b(), c())), 14}, {within(0, 2, a(), b()), 9}, {within(1, 2, a(), b(), c()), 9},
		// fields that belong to another kind
		{node{Kind: 7, Min: 5, Max: 7, Subs: letters(2)}, 3}, {node{Kind: 8, Min: 5, Max: -1, Lazy: true, Num: 9, Name: "x", Set: of(1, 2), Subs: letters(2)}, 3}, {node{Kind: 6, Min: 100, Max: 100, Set: of(1, 0), Subs: letters(1)}, 2}, {node{Kind: 9, Num: 77, Name: "?", Set: of('a', 'b', 'x', 'z'), Min: 2, Max: 2, Subs: letters(1)}, 3}, {node{Kind: 5, Num: 1000}, 1}, {node{Kind: 3, Min: 7, Max: 7}, 1}, {node{Kind: 6, Num: -1, Name: "1", Subs: letters(1)}, 2}, {node{Kind: 4, Set: of(0, 1000, 5, 3)}, 1},
		// Subs of what has none
		{kind(1, a()), 1}, {kind(2, a(), b()), 1}, {kind(3, letters(5000)...), 1}, {kind(4, repeat(1000, 1000, a())), 1}, {node{Kind: 5, Num: 1, Min: 5, Max: 5, Subs: letters(3)}, 1},
		// kinds that there are not
		{node{}, 1}, {kind(0, a(), b()), 1}, {kind(-1), 1}, {kind(10, a()), 1}, {node{Kind: 11, Min: 1000, Max: 2000, Subs: letters(4)}, 1}, {kind(256+7, a(), b()), 1}, {kind(1<<32+9, a()), 1}, {kind(math.MaxInt, letters(9)...), 1}, {kind(math.MinInt, letters(9)...), 1},
	} {
		weighs(t, x.n, x.weight)
		for _, y := range around(x.n, x.weight) {
			if x.weight <= heaviest || y.weight == 1 {
				weighs(t, y.n, y.weight)
			}
		}
		if check.Check(x.n) != api.OK {
			refused(t, x.n, check.Check(x.n))
		}
	}
}

// levels are ways to put a node into another one, with how much heavier that is.
func levels() map[string]func(node, int) (node, int) {
	return map[string]func(node, int) (node, int){
		"group":  func(n node, w int) (node, int) { return group(1, n), 1 + w },
		"cat":    func(n node, w int) (node, int) { return cat(n, empty()), 2 + w },
		"alt":    func(n node, w int) (node, int) { return alt(empty(), n), 2 + w },
		"alone":  func(n node, w int) (node, int) { return alone(n), 1 + w },
		"star":   func(n node, w int) (node, int) { return star(n), 2 + w },
		"option": func(n node, w int) (node, int) { return repeat(0, 1, n), 3 + w },
		"kind 6": func(n node, w int) (node, int) { return kind(6, none(), n, a()), 3 + w },
		"kind 7": func(n node, w int) (node, int) { return kind(7, n), 1 + w },
		"min -1": func(n node, w int) (node, int) { return repeat(-1, -1, n), 2 + w },
	}
}

// Nodes at the depth api.MaxNest, and one more.
func TestWeightsOfDeepNodes(t *testing.T) {
	ends := []load{{empty(), 1}, {a(), 1}, {none(), 1}, {assert(0), 1}, {node{}, 1}, {kind(10, a()), 1}, {kind(1, a()), 1}, {kind(6), 1}, {kind(7), 1}, {kind(8), 1}, {kind(9), 1}, {node{Kind: 9, Max: -1}, 2}, {node{Kind: 9, Max: 2}, 5}, {never(a()), 1}, {never(cat(a(), b())), 1}, {repeat(-4, -4, a()), 1}, {repeat(math.MinInt, 0, chain(10, a(), star)), 1}, {kind(4, chain(3000, a(), star)), 1}}
	for name, level := range levels() {
		for _, end := range ends {
			n, w := end.n, end.weight
			for depth := 1; depth <= api.MaxNest+2; depth++ {
				switch {
				case depth < 4 || depth > api.MaxNest-3 && depth <= api.MaxNest:
					weighs(t, n, w)
				case depth > api.MaxNest:
					weighs(t, n, heaviest+1) // only the last node, or what is around it, is too deep
				}
				if got := norm.Weight(never(n)); got != 1 {
					t.Fatalf("%s: %d", name, got)
				}
				n, w = level(n, w)
			}
		}
		// What weighs nothing by itself is too heavy when it is deep, and what is below a leaf or is repeated 0 times
		// does not count.
		sunk := func(levels int, n node) node {
			return chain(levels, n, func(n node) node { x, _ := level(n, 0); return x })
		}
		leaf := norm.Weight(sunk(api.MaxNest-1, a()))
		for _, end := range []node{never(a()), kind(3, a()), kind(-3, a()), repeat(-1, 0, a()), repeat(0, -9, sunk(2000, a())), never(sunk(70, a()))} {
			if got := norm.Weight(sunk(api.MaxNest-1, end)); got != leaf || got > heaviest {
				t.Errorf("%s: %d, and %d with a leaf", name, got, leaf)
			}
			weighs(t, sunk(api.MaxNest, end), heaviest+1)
		}
		weighs(t, never(sunk(1<<16, a())), 1)
		weighs(t, cat(a(), kind(2, sunk(1<<16, a())), never(sunk(api.MaxNest, a())), b()), 5)
		weighs(t, sunk(1<<16-1, a()), heaviest+1)
	}
	wide := cat(append(letters(5000), chain(2000, a(), star))...)
	weighs(t, wide, heaviest+1)
	// exactly the deep node is as heavy as that: with it nothing else fits
	weighs(t, chain(api.MaxNest-1, kind(6), alone), api.MaxNest)
	weighs(t, chain(api.MaxNest-1, kind(6, empty()), alone), heaviest+1)
}

func TestErrorsOfCore(t *testing.T) {
	heavy := repeat(1000, 1000, cat(letters(4)...))
	groups := func(many int) node {
		n := cat(empty())
		for num := range many {
			n.Subs = append(n.Subs, group(num+1, a()))
		}
		return n
	}
	twice := cat(named(1, "x", a()), named(2, "x", b()))
	for _, x := range []struct {
		n node
		e api.Code
	}{
		{node{}, api.ErrTree}, {kind(10), api.ErrTree}, {kind(-1), api.ErrTree}, {kind(1, a()), api.ErrTree}, {set(), api.ErrTree}, {set('b', 'a'), api.ErrTree}, {set('a', 'b', 'c', 'd'), api.ErrTree}, {set(-1, 5), api.ErrTree}, {set(0, api.MaxRune+1), api.ErrTree}, {assert(0), api.ErrTree}, {assert(7), api.ErrTree},
		{kind(6, a()), api.ErrTree}, {group(2, a()), api.ErrTree}, {named(1, "1", a()), api.ErrTree}, {kind(7), api.ErrTree}, {kind(7, a()), api.ErrTree}, {kind(8, a()), api.ErrTree}, {kind(9), api.ErrTree}, {repeat(-1, -1, a()), api.ErrTree}, {repeat(2, 1, a()), api.ErrTree}, {repeat(0, 1001, a()), api.ErrTree}, {repeat(0, -2, a()), api.ErrTree}, {repeat(1001, 1001, a()), api.ErrTree},
		{cat(group(1, a()), group(1, b())), api.ErrTree}, {cat(group(2, a()), group(1, b())), api.ErrTree}, {groups(32), api.ErrLong}, {twice, api.ErrThere}, {chain(1000, a(), star), api.ErrDeep}, {chain(1000, node{}, alone), api.ErrDeep}, {chain(3000, a(), alone), api.ErrDeep},
		{heavy, api.ErrSize}, {cat(letters(4000)...), api.ErrSize}, {repeat(0, 1000, group(1, a())), api.ErrSize}, {chain(990, a(), func(n node) node { return repeat(1, -1, n) }), api.ErrSize},

		// the errors of Check first
		{cat(heavy, node{}), api.ErrTree}, {cat(groups(32), heavy), api.ErrLong}, {alt(heavy, twice), api.ErrThere}, {cat(heavy, chain(1000, a(), star)), api.ErrDeep}, {cat(append(letters(5000), set())...), api.ErrTree}, {repeat(1000, 1001, cat(letters(4)...)), api.ErrTree}, {never(node{}), api.ErrTree}, {never(twice), api.ErrThere}, {never(groups(32)), api.ErrLong}, {never(chain(999, a(), alone)), api.ErrDeep},
	} {
		refused(t, x.n, x.e)
		if x.e == api.ErrDeep {
			continue
		}
		refused(t, alone(x.n), x.e)
		refused(t, cat(a(), x.n), x.e)
		refused(t, alt(x.n, b()), x.e)
	}
	cored(t, groups(31), cat(groups(31).Subs[1:]...))
}

// What is repeated 0 times has no core of its own, however heavy it is: no such core could be made.
func TestHeavyTreesThatAreRepeated0Times(t *testing.T) {
	for _, levels := range []int{2, 10, 100, 990} {
		for _, wrap := range []func(node) node{
			func(n node) node { return repeat(1000, 1000, n) },
			func(n node) node { return repeat(900, -1, n) },
			func(n node) node { return repeat(0, 1000, n) },
			func(n node) node { return repeat(1, -1, n) },
		} {
			n := chain(levels, group(1, a()), wrap)
			cored(t, never(n), empty())
			cored(t, lazy(0, 0, n), empty())
			cored(t, cat(b(), never(n), c()), cat(b(), c()))
			cored(t, cat(b(), never(never(n))), b())
			cored(t, alt(b(), star(never(n)), group(2, never(a()))), alt(b(), empty(), group(2, empty())))
			cored(t, repeat(2, 2, alt(b(), never(n))), cat(alt(b(), empty()), alt(b(), empty())))
		}
	}
	cored(t, never(cat(letters(100_000)...)), empty())
}

// Trees of the greatest depth, and a core that is deeper.
func TestDeepCores(t *testing.T) {
	kept := func(n node) node { return cat(a(), star(n)) }
	for _, n := range []node{chain(499, b(), kept), chain(999, a(), star), chain(996, cat(a(), alt(b(), star(c()))), star)} {
		cored(t, n, n)
	}
	cored(t, chain(997, cat(a(), cat(b(), c())), star), chain(997, cat(a(), b(), c()), star))
	cored(t, chain(999, a(), alone), a())
	cored(t, chain(999, empty(), star), empty())
	cored(t, chain(999, a(), func(n node) node { return cat(n, b()) }), cat(append([]node{a()}, slices.Repeat([]node{b()}, 999)...)...))
	cored(t, chain(999, a(), func(n node) node { return alt(b(), n) }), alt(append(slices.Repeat([]node{b()}, 999), a())...))

	tall := chain(998, a(), star)
	core := cat(tall, star(tall))
	cored(t, repeat(1, -1, tall), core)
	if check.Depth(repeat(1, -1, tall)) != api.MaxNest || modelDepth(core) != api.MaxNest+1 {
		t.Error("this core is not deeper than a tree may be")
	}
	refused(t, core, api.ErrDeep) // as a tree
}

// A set may have very many ranges; where it is not repeated, it is not copied at each level.
func TestLongSets(t *testing.T) {
	n := node{Kind: api.KSet}
	for r := 0; r <= api.MaxRune; r += 2 {
		n.Set = append(n.Set, api.Range{Lo: r, Hi: r})
	}
	cored(t, n, n)
	cored(t, chain(999, n, alone), n)
	cored(t, chain(998, n, star), chain(998, n, star))
	cored(t, repeat(3, 3, n), cat(n, n, n))
}

func TestNamesAreDropped(t *testing.T) {
	n, want := empty(), cat()
	n = cat()
	for num := 1; num <= 31; num++ {
		n.Subs = append(n.Subs, named(num, "n"+strconv.Itoa(num), a()))
		want.Subs = append(want.Subs, group(num, a()))
	}
	cored(t, n, want)
	cored(t, repeat(2, 2, n), cat(slices.Concat(want.Subs, want.Subs)...))
	cored(t, star(n), star(want))
}
