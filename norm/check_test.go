package norm_test

import (
	"math"
	"slices"
	"strconv"
	"testing"

	"burin/api"
	"burin/norm"
)

// checked demands a result of Check.
func checked(t *testing.T, n node, want api.Code) {
	t.Helper()
	if got := norm.Check(n); got != want {
		t.Errorf("Check(%s) = %d, want %d", cut(text(n)), int(got), int(want))
	}
}

// outers are ways to put a core into another one, of which those that do not take it are left out.
func outers(n node) []node {
	out := []node{group(1, n), group(31, n), group(7, group(7, n)), cat(a(), group(5, n)), group(9, group(2, n)), alt(a(), group(3, n), empty())}
	if n.Kind != api.KEmpty {
		out = append(out, star(n), lazy(0, -1, n), repeat(0, 1, n), lazy(0, 1000, n), star(star(n)))
		if n.Kind != api.KCat {
			out = append(out, cat(n, a()), cat(a(), n), cat(b(), n, c()), cat(n, n), star(cat(a(), n)))
		}
	}
	if n.Kind != api.KAlt {
		out = append(out, alt(n, a()), alt(a(), n), alt(b(), n, c()), alt(n, n), alt(empty(), n), cat(a(), alt(n, b())))
	}
	return out
}

func TestCheckAcceptsCores(t *testing.T) {
	for _, x := range all() {
		checked(t, x.core, api.OK)
		if modelSize(x.core) > 1000 {
			continue
		}
		for _, y := range outers(x.core) {
			checked(t, y, api.OK)
			for _, z := range outers(y) {
				checked(t, z, api.OK)
			}
		}
	}
}

// faults are nodes that are no cores, each for one reason, but whose Subs are cores.
func faults() []node {
	never := math.MaxInt
	return []node{
		// kinds that there are not
		{}, kind(-1), kind(10), kind(11), kind(never), kind(math.MinInt), kind(256 + 1), kind(1<<32 + 2), kind(0, a()), kind(10, a(), b()),

		// fields that belong to another kind
		{Kind: 1, Set: of('a', 'a')}, {Kind: 1, Num: 1}, {Kind: 1, Num: -1}, {Kind: 1, Name: "x"}, {Kind: 1, Min: 1}, {Kind: 1, Max: -1}, {Kind: 1, Max: 1}, {Kind: 1, Lazy: true}, kind(1, a()), kind(1, empty()),
		{Kind: 2, Set: of('a', 'a')}, {Kind: 2, Num: 1}, {Kind: 2, Name: "x"}, {Kind: 2, Min: 1}, {Kind: 2, Max: -1}, {Kind: 2, Lazy: true}, kind(2, a()),
		{Kind: 3, Set: of('a', 'a'), Num: 1}, {Kind: 3, Set: of('a', 'a'), Name: "x"}, {Kind: 3, Set: of('a', 'a'), Min: 1}, {Kind: 3, Set: of('a', 'a'), Max: 1}, {Kind: 3, Set: of('a', 'a'), Lazy: true}, {Kind: 3, Set: of('a', 'a'), Subs: letters(1)},
		{Kind: 4, Set: of(0, 255)}, {Kind: 4, Num: 1}, {Kind: 4, Name: "x"}, {Kind: 4, Min: 1}, {Kind: 4, Max: -1}, {Kind: 4, Lazy: true}, kind(4, a()),
		{Kind: 5, Num: 1, Set: of('a', 'a')}, {Kind: 5, Num: 1, Name: "x"}, {Kind: 5, Num: 1, Min: 1}, {Kind: 5, Num: 1, Max: 1}, {Kind: 5, Num: 1, Lazy: true}, {Kind: 5, Num: 1, Subs: letters(1)},
		{Kind: 6, Num: 1, Set: of('a', 'a'), Subs: letters(1)}, {Kind: 6, Num: 1, Min: 1, Subs: letters(1)}, {Kind: 6, Num: 1, Max: 1, Subs: letters(1)}, {Kind: 6, Num: 1, Max: -1, Subs: letters(1)}, {Kind: 6, Num: 1, Lazy: true, Subs: letters(1)},
		{Kind: 7, Set: of('a', 'a'), Subs: letters(2)}, {Kind: 7, Num: 1, Subs: letters(2)}, {Kind: 7, Name: "x", Subs: letters(2)}, {Kind: 7, Min: 1, Subs: letters(2)}, {Kind: 7, Max: -1, Subs: letters(2)}, {Kind: 7, Lazy: true, Subs: letters(2)},
		{Kind: 8, Set: of('a', 'a'), Subs: letters(2)}, {Kind: 8, Num: 1, Subs: letters(2)}, {Kind: 8, Name: "x", Subs: letters(2)}, {Kind: 8, Min: 1, Subs: letters(2)}, {Kind: 8, Max: -1, Subs: letters(2)}, {Kind: 8, Lazy: true, Subs: letters(2)},
		{Kind: 9, Max: -1, Set: of('a', 'a'), Subs: letters(1)}, {Kind: 9, Max: -1, Num: 1, Subs: letters(1)}, {Kind: 9, Max: -1, Name: "x", Subs: letters(1)},

		// sets that are empty or not normalized
		set(), set('b', 'a'), set('a', 'b', 'c', 'd'), set('a', 'c', 'b', 'd'), set('x', 'x', 'a', 'a'), set(-1, 5), set(-5, -1), set(0, api.MaxRune+1), set(api.MaxRune+1, never), set(math.MinInt, never),

		// assertions that there are not
		assert(0), assert(7), assert(-1), assert(256 + 1), assert(never), assert(math.MinInt),

		// groups: numbers that are too small or too great, names, too few or too many Subs
		group(0, a()), group(-1, a()), group(32, a()), group(33, a()), group(64, a()), group(256+1, a()), group(never, a()), group(math.MinInt, a()), named(1, "x", a()), named(31, "Name_1", empty()), named(1, " ", a()), named(2, "1", a()), {Kind: 6, Num: 1}, {Kind: 6, Num: 1, Subs: letters(2)}, {Kind: 6, Num: 31, Subs: []node{empty(), empty(), empty()}},

		// one after another: too few, or one that is a KCat or a KEmpty
		cat(), cat(a()), cat(empty()), cat(cat(a(), b())), cat(empty(), empty()), cat(empty(), a()), cat(a(), empty()), cat(a(), b(), empty()), cat(a(), empty(), b()), cat(empty(), a(), b()), cat(cat(a(), b()), c()), cat(a(), cat(b(), c())), cat(a(), cat(b(), c()), a()), cat(cat(a(), b()), cat(b(), c())), cat(a(), b(), c(), cat(a(), b())), cat(cat(a(), b()), empty()),

		// alternatives: too few, or one that is a KAlt
		alt(), alt(a()), alt(empty()), alt(alt(a(), b())), alt(alt(a(), b()), c()), alt(a(), alt(b(), c())), alt(a(), alt(b(), c()), a()), alt(alt(empty(), empty()), empty()), alt(alt(a(), b()), alt(b(), c())), alt(a(), b(), c(), alt(a(), b())),

		// repetitions: a Min that is not 0, a Max that is 0 or no Max at all, too few or too many Subs, a KEmpty
		repeat(1, -1, a()), repeat(1, 1, a()), repeat(1, 2, a()), repeat(2, -1, a()), repeat(1000, 1000, a()), repeat(-1, -1, a()), repeat(-1, 1, a()), repeat(math.MinInt, 5, a()), repeat(never, -1, a()), lazy(1, -1, a()),
		repeat(0, 0, a()), lazy(0, 0, a()), repeat(0, -2, a()), repeat(0, 1001, a()), repeat(0, 4000, a()), repeat(0, never, a()), repeat(0, math.MinInt, a()), lazy(0, 1001, a()),
		{Kind: 9, Max: -1}, {Kind: 9, Max: 1}, {Kind: 9, Max: -1, Subs: letters(2)}, {Kind: 9, Max: 3, Lazy: true, Subs: letters(3)},
		star(empty()), lazy(0, -1, empty()), repeat(0, 1, empty()), repeat(0, 1000, empty()), {Kind: 9, Max: -1, Subs: []node{a(), empty()}}, repeat(0, 0, empty()),
	}
}

func TestCheckRejectsWhatIsNoCore(t *testing.T) {
	for _, n := range faults() {
		checked(t, n, api.ErrTree)
		for _, y := range outers(n) {
			checked(t, y, api.ErrTree)
			checked(t, cat(a(), star(alt(y, b())), c()), api.ErrTree)
		}
		// as the only fault, first, last and within
		checked(t, cat(append(letters(200), n)...), api.ErrTree)
		checked(t, alt(append([]node{n}, letters(200)...)...), api.ErrTree)
		checked(t, chain(500, n, star), api.ErrTree)
	}
}

// Trees that are no cores, and are then: in the tables of trees with another core, none is one.
func TestTreesThatAreNoCores(t *testing.T) {
	for _, x := range changed {
		if !equal(x.n, x.core) {
			checked(t, x.n, api.ErrTree)
		}
	}
}

// Groups have any numbers, in any order, repeated or not.
func TestNumbersOfGroups(t *testing.T) {
	for num := -70; num <= 70; num++ {
		want := api.ErrTree
		if 1 <= num && num <= 31 {
			want = api.OK
		}
		checked(t, group(num, a()), want)
		checked(t, cat(group(31, a()), group(num, b()), group(1, empty())), want)
		checked(t, group(2, group(num, star(group(num, a())))), want)
	}
	var l []node
	for i := range 1000 {
		l = append(l, group(31-i*i%31, a()))
	}
	checked(t, cat(l...), api.OK)
	checked(t, alt(l...), api.OK)
	checked(t, cat(append(l, group(32, a()))...), api.ErrTree)
}

// Every Max that a repetition may have, and those next to them, with every small Min.
func TestNumbersOfRepetitions(t *testing.T) {
	for high := -5; high <= 1005; high++ {
		for low := -2; low <= 2; low++ {
			want := api.ErrTree
			if low == 0 && (high == -1 || 1 <= high && high <= 1000) {
				want = api.OK
			}
			checked(t, repeat(low, high, a()), want)
			checked(t, cat(lazy(low, high, alt(a(), empty())), a()), want)
		}
	}
}

// Cores of the greatest depth, and what is deeper.
func TestDepthOfCores(t *testing.T) {
	wraps := map[string]func(node) node{
		"star":        star,
		"group":       func(n node) node { return group(1, n) },
		"lazy":        func(n node) node { return lazy(0, 9, n) },
		"cat and alt": func(n node) node { return cat(a(), alt(n, b())) },
		"alt and cat": func(n node) node { return alt(cat(n, b()), a()) },
		"odd":         func(n node) node { return kind(1, n) },
	}
	for name, wrap := range wraps {
		for depth := 1990; depth <= 2010; depth++ {
			levels, n := depth-1, a()
			if name == "cat and alt" || name == "alt and cat" {
				levels = levels / 2
				if depth%2 == 0 {
					n = star(n)
				}
			}
			n = chain(levels, n, wrap)
			if modelDepth(n) != depth {
				t.Fatal(name, depth, modelDepth(n))
			}
			want := api.OK
			switch {
			case depth > 2000:
				want = api.ErrDeep
			case modelSize(n) > 4000:
				want = api.ErrSize
			case name == "odd":
				want = api.ErrTree
			}
			checked(t, n, want)
		}
	}
	for _, depth := range []int{2001, 2500, 4000, 10_000, 1 << 16} {
		checked(t, chain(depth-1, a(), star), api.ErrDeep)
		checked(t, chain(depth-1, empty(), alone), api.ErrDeep)
		checked(t, cat(empty(), chain(depth-2, a(), star)), api.ErrDeep)
		checked(t, kind(3, a(), kind(-4, chain(depth-3, kind(0), star))), api.ErrDeep)
	}
	checked(t, chain(1999, empty(), func(n node) node { return group(31, n) }), api.OK)
}

// As many nodes as a core may have, and one more.
func TestSizeOfCores(t *testing.T) {
	for size := 3990; size <= 4010; size++ {
		want := api.OK
		if size > heaviest {
			want = api.ErrSize
		}
		for _, n := range []node{
			cat(letters(size - 1)...), alt(letters(size - 1)...), star(cat(letters(size - 2)...)), group(1, alt(letters(size-2)...)), cat(append(letters(size-3), star(a()))...), cat(append([]node{group(5, a())}, letters(size-3)...)...),
			cat(alt(letters(size/2)...), star(cat(letters(size-size/2-4)...))), cat(append(letters(size-1900), chain(1898, a(), star))...), chain(1000, cat(letters(size-1001)...), star), alt(cat(letters(2000)...), cat(letters(size-2003)...)),
		} {
			if modelSize(n) != size {
				t.Fatal(size, modelSize(n))
			}
			checked(t, n, want)
		}
		if size <= heaviest {
			want = api.ErrTree
		}
		for _, n := range []node{cat(append(letters(size-2), empty())...), alt(append([]node{{}}, letters(size-2)...)...), kind(1, letters(size-1)...), kind(0, letters(size-1)...), kind(3, kind(9, letters(size-2)...))} {
			if modelSize(n) != size {
				t.Fatal(size, modelSize(n))
			}
			checked(t, n, want)
		}
	}
	checked(t, cat(letters(1_000_000)...), api.ErrSize)
	wide := cat(letters(1000)...)
	checked(t, alt(wide, wide, wide), api.OK)
	checked(t, alt(wide, wide, wide, wide), api.ErrSize)
}

// ErrDeep comes before ErrSize, and ErrSize before ErrTree, wherever in the tree they are.
func TestOrderOfErrors(t *testing.T) {
	deep, large := chain(2000, a(), star), cat(letters(4000)...)
	deepAndWrong, largeAndWrong := chain(2000, node{}, alone), cat(append(letters(4000), set())...)
	for _, wrong := range faults() {
		for _, x := range []struct {
			n node
			e api.Code
		}{
			{alt(wrong, deep), api.ErrDeep}, {alt(deep, wrong), api.ErrDeep}, {alt(wrong, large), api.ErrSize}, {alt(large, wrong), api.ErrSize}, {alt(large, deep), api.ErrDeep}, {alt(deep, large), api.ErrDeep}, {alt(wrong, large, deep), api.ErrDeep}, {cat(deep, large, wrong), api.ErrDeep}, {cat(large, deepAndWrong), api.ErrDeep}, {alt(wrong, largeAndWrong, a()), api.ErrSize}, {kind(10, large), api.ErrSize}, {kind(1, deep), api.ErrDeep}, {kind(1, large, deep), api.ErrDeep},
		} {
			checked(t, x.n, x.e)
		}
	}
	checked(t, deepAndWrong, api.ErrDeep)
	checked(t, largeAndWrong, api.ErrSize)
	checked(t, cat(append(letters(100_000), deep)...), api.ErrDeep)
	// of the greatest depth and size, with a fault
	n := chain(1999, empty(), star)
	checked(t, n, api.ErrTree)
	checked(t, alt(append(letters(1998), chain(1998, node{}, star), a(), b())...), api.ErrTree)
	checked(t, alt(append(letters(2000), chain(1998, node{}, star))...), api.ErrTree)
	checked(t, alt(append(letters(2001), chain(1998, node{}, star))...), api.ErrSize)
	checked(t, alt(append(letters(2000), chain(1999, node{}, star))...), api.ErrDeep)
	checked(t, alt(append(letters(2000), chain(1998, a(), star))...), api.OK)
}

// slotted demands a number of slots.
func slotted(t *testing.T, n node, want int) {
	t.Helper()
	if got := norm.Slots(n); got != want {
		t.Errorf("Slots(%s) = %d, want %d", cut(text(n)), got, want)
	}
}

func TestSlots(t *testing.T) {
	for _, x := range []struct {
		n    node
		want int
	}{
		// no group
		{empty(), 2}, {none(), 2}, {a(), 2}, {anyByte(), 2}, {assert(6), 2}, {cat(a(), b()), 2}, {alt(a(), star(b())), 2}, {node{}, 2}, {node{Kind: 7, Num: 5, Subs: letters(2)}, 2}, {node{Kind: 9, Num: 31, Max: -1, Subs: letters(1)}, 2}, {kind(5, letters(2)...), 2}, {node{Kind: 10, Num: 3}, 2}, {node{Kind: 256 + 6, Num: 3}, 2},
		// one group
		{group(1, a()), 4}, {group(2, a()), 6}, {group(3, empty()), 8}, {group(30, a()), 62}, {group(31, a()), 64}, {named(4, "x", a()), 10}, {kind(6), 2}, {node{Kind: 6, Num: 5}, 12}, {node{Kind: 6, Num: 5, Subs: letters(3)}, 12},
		// several, in any order, and repeated
		{cat(group(1, a()), group(2, b())), 6}, {cat(group(2, a()), group(1, b())), 6}, {cat(group(7, a()), group(7, b()), group(7, c())), 16}, {alt(group(1, a()), group(31, b()), group(5, c())), 64}, {group(9, group(3, a())), 20}, {group(3, group(9, a())), 20}, {star(cat(group(1, a()), alt(b(), group(12, c())))), 26}, {cat(a(), star(group(1, group(2, group(3, b()))))), 8}, {cat(group(5, a()), group(0, b())), 12}, {cat(group(-9, a()), group(2, b())), 6},
		// where chapter 6 allows no Subs
		{kind(1, group(4, a())), 10}, {kind(-1, a(), group(4, a())), 10}, {kind(3, kind(5, group(8, a()))), 18},
		// numbers less than 1
		{group(0, a()), 2}, {group(-1, a()), 2}, {group(-31, a()), 2}, {group(math.MinInt, a()), 2}, {cat(group(0, a()), group(-5, b())), 2}, {group(-1, group(0, group(-2, a()))), 2},
		// numbers that are too great
		{group(32, a()), 66}, {group(1000, a()), 2002}, {group(1<<31, a()), 1<<32 + 2}, {cat(group(1<<40, a()), group(1, b())), 1<<41 + 2}, {group(math.MaxInt/2-1, a()), math.MaxInt - 1}, {cat(group(math.MinInt, a()), group(math.MaxInt/2-1, a())), math.MaxInt - 1},
	} {
		slotted(t, x.n, x.want)
		slotted(t, star(x.n), x.want)
		slotted(t, cat(a(), x.n), x.want)
		slotted(t, alt(x.n, group(0, b())), x.want)
		slotted(t, group(6, x.n), max(x.want, 14))
	}
	norm.Slots(group(math.MaxInt, a())) // ends: there is no such number as it would have to return
}

func TestSlotsOfDeepTrees(t *testing.T) {
	for _, depth := range []int{1, 2, 999, 1000, 1001, 1998, 1999, 2000} {
		last := node{Kind: 6, Num: 11}
		slotted(t, chain(depth-1, last, star), 24)
		slotted(t, chain(depth-1, last, func(n node) node { return cat(a(), n) }), 24)
		slotted(t, chain(depth-1, last, func(n node) node { return group(10, n) }), 24)
		slotted(t, chain(depth-1, last, func(n node) node { return group(12, n) }), map[bool]int{true: 24, false: 26}[depth == 1])
	}
	for _, depth := range []int{2001, 5000, 1 << 16} {
		norm.Slots(chain(depth-1, group(1, a()), star)) // ends, and is nothing that is promised
	}
	var l []node
	for i := range 100_000 {
		l = append(l, group(1+i%31, a()))
	}
	slotted(t, cat(l...), 64)
	slotted(t, cat(l[:30]...), 62)
}

// A list of Subs that contains itself has no last level.
func TestListsThatContainThemselves(t *testing.T) {
	for k := 6; k <= 9; k++ {
		n := node{Kind: k, Num: 1, Max: -1, Subs: make([]node, 1)}
		if k == api.KGroup {
			n.Max = 0
		}
		n.Subs[0] = n
		weighs(t, n, heaviest+1)
		checked(t, n, api.ErrDeep)
		refused(t, n, api.ErrDeep)
		norm.Slots(n)
	}
	n := node{Kind: 7, Subs: []node{a(), a(), a()}}
	n.Subs[1], n.Subs[2] = n, n
	weighs(t, n, heaviest+1)
	checked(t, n, api.ErrDeep)
	weighs(t, never(n), 1)
	n.Subs[0], n.Subs[1], n.Subs[2] = never(n), never(n), a()
	weighs(t, n, 4)
}

// What Check accepts of nodes with one fault less: a core of each kind, spoiled field by field.
func TestFieldsOfEachKind(t *testing.T) {
	spoils := []func(*node){
		func(n *node) { n.Kind = 0 }, func(n *node) { n.Kind += 9 }, func(n *node) { n.Set = append(of('a', 'a'), n.Set...) }, func(n *node) { n.Set = append(slices.Clone(n.Set), of(api.MaxRune+1, api.MaxRune+1)...) }, func(n *node) { n.Num += 32 }, func(n *node) { n.Num -= 32 }, func(n *node) { n.Name = "x" },
		func(n *node) { n.Min = 1 }, func(n *node) { n.Min = -1 }, func(n *node) { n.Max += 2000 }, func(n *node) { n.Max -= 1001 }, func(n *node) { n.Lazy = true }, func(n *node) { n.Subs = append(slices.Clone(n.Subs), empty()) }, func(n *node) { n.Subs = n.Subs[:max(0, len(n.Subs)-1)] },
	}
	for i, spoil := range spoils {
		for _, n := range []node{empty(), none(), set('c', 'd'), anyByte(), assert(3), group(4, a()), cat(a(), b()), alt(a(), b()), star(a()), repeat(0, 2, a())} {
			x := n
			spoil(&x)
			want := api.ErrTree
			if equal(x, n) || n.Kind == 9 && x.Lazy || n.Kind == 8 && len(x.Subs) == 3 || n.Kind == 3 && len(x.Set) == 2 && x.Set[0].Lo == 'a' && x.Set[1].Lo == 'c' {
				want = api.OK
			}
			if want != modelCheck(x) {
				t.Error("the model: spoil " + strconv.Itoa(i) + ", kind " + strconv.Itoa(n.Kind))
			}
			checked(t, x, want)
		}
	}
}
