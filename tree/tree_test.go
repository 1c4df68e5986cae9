package tree_test

import (
	"math"
	"math/rand/v2"
	"reflect"
	"slices"
	"strconv"
	"testing"

	"burin/api"
	"burin/tree"
)

const (
	least = math.MinInt
	most  = math.MaxInt
)

type node = api.Node

// of makes a list of the ends of its ranges.
func of(ends ...int) []api.Range {
	var l []api.Range
	for i := 0; i < len(ends); i += 2 {
		l = append(l, api.Range{Lo: ends[i], Hi: ends[i+1]})
	}
	return l
}

func kind(k int, subs ...node) node { return node{Kind: k, Subs: subs} }
func empty() node                   { return kind(api.KEmpty) }
func none() node                    { return kind(api.KNone) }
func anyByte() node                 { return kind(api.KByte) }
func set(ends ...int) node          { return node{Kind: api.KSet, Set: of(ends...)} }
func letter(r int) node             { return set(r, r) }
func assert(num int) node           { return node{Kind: api.KAssert, Num: num} }
func cat(subs ...node) node         { return kind(api.KCat, subs...) }
func alt(subs ...node) node         { return kind(api.KAlt, subs...) }

func group(num int, name string, subs ...node) node {
	return node{Kind: api.KGroup, Num: num, Name: name, Subs: subs}
}

func repeat(least, most int, lazy bool, subs ...node) node {
	return node{Kind: api.KRepeat, Min: least, Max: most, Lazy: lazy, Subs: subs}
}

// star is a part again and again.
func star(sub node) node { return repeat(0, -1, false, sub) }

// chain puts n under as many further nodes, each made by wrap.
func chain(levels int, n node, wrap func(node) node) node {
	for range levels {
		n = wrap(n)
	}
	return n
}

// These put a node under another, as the only Sub, the first or the last.
func inGroup(n node) node   { return group(1, "", n) }
func inRepeat(n node) node  { return repeat(1, 1, false, n) }
func inCat(n node) node     { return cat(n, empty()) }
func inAlt(n node) node     { return alt(letter('a'), n) }
func inUnknown(n node) node { return kind(77, n) }

// wraps are the ways to put a node under one of a known Kind.
func wraps() map[string]func(node) node {
	return map[string]func(node) node{"group": inGroup, "repeat": inRepeat, "cat": inCat, "alt": inAlt}
}

// shallow are trees that Check accepts.
func shallow() []node {
	return []node{
		empty(),
		none(),
		anyByte(),
		letter('a'),
		set(0, api.MaxRune),
		set(0, 0),
		set(api.MaxRune, api.MaxRune),
		set('0', '9', 'A', 'Z', 'a', 'z'),
		set(0xD800, 0xDFFF),
		assert(api.ABegin),
		assert(api.AEnd),
		assert(api.ALine),
		assert(api.ALineEnd),
		assert(api.AWord),
		assert(api.ANoWord),
		group(1, "", empty()),
		group(1, "x", none()),
		group(1, "Group_1", letter('a')),
		cat(letter('a'), letter('b')),
		cat(empty(), assert(api.AEnd), anyByte()),
		cat(cat(empty(), empty()), cat(empty(), none())),
		alt(letter('a'), letter('b')),
		alt(none(), none(), empty()),
		alt(alt(none(), letter('a')), alt(letter('b'), letter('c'), letter('d'))),
		repeat(0, -1, false, letter('a')),
		repeat(0, -1, true, letter('a')),
		repeat(1, -1, false, letter('a')),
		repeat(0, 0, false, letter('a')),
		repeat(0, 1, true, letter('a')),
		repeat(api.MaxRepeat, api.MaxRepeat, false, letter('a')),
		repeat(0, api.MaxRepeat, true, letter('a')),
		repeat(api.MaxRepeat, -1, false, letter('a')),
		repeat(2, 4, false, star(repeat(3, 3, true, empty()))),
		group(1, "a", group(2, "b", group(3, "", group(4, "", letter('a'))))),
		cat(group(1, "", letter('a')), group(2, "", letter('a')), group(3, "a", letter('a')), group(4, "A", letter('a'))),
		alt(group(1, "one", alt(group(2, "two", letter('a')), group(3, "three", empty()))), star(group(4, "four", none()))),
		cat(star(group(1, "", cat(letter('a'), group(2, "", assert(api.AWord))))), alt(group(3, "x", empty()), group(4, "y", none()))),
		groups(api.MaxSlots/2 - 1),
	}
}

// valid are trees that Check accepts, some of the greatest depth.
func valid() []node {
	return append(shallow(),
		chain(api.MaxNest-1, letter('a'), star),
		chain(api.MaxNest-1, empty(), inCat),
		chain(api.MaxNest-1, none(), inAlt),
		chain(api.MaxNest-2, group(1, "", empty()), inRepeat),
	)
}

// groups is a row of that many groups, each with a name.
func groups(count int) node {
	row := cat(empty())
	for num := 1; num <= count; num++ {
		row.Subs = append(row.Subs, group(num, "g"+strconv.Itoa(num), letter('a')))
	}
	return row
}

// odd are nodes that Check rejects, and that all other functions accept.
func odd() []node {
	return []node{
		{},
		kind(-1),
		kind(10),
		kind(least),
		kind(most, empty(), group(5, "in an unknown Kind", none())),
		set(),
		set(9, 5, -7, most),
		set(5, 5, 5, 5),
		assert(0),
		assert(7),
		assert(least),
		group(0, ""),
		group(-3, "no name", empty(), letter('a'), group(-3, "no name", assert(9))),
		group(1, "x", group(1, "x", group(most, "\xFF", empty()))),
		cat(),
		cat(empty()),
		cat(none()),
		alt(),
		alt(empty()),
		alt(none()),
		repeat(0, 0, false),
		repeat(5, 2, true),
		repeat(-5, -2, true, empty()),
		repeat(-5, -2, true, none()),
		repeat(0, -1, false, none(), none()),
		repeat(1, -1, false, empty(), none()),
		repeat(least, most, true, empty(), empty()),
		{Kind: api.KEmpty, Set: of(1, 0), Num: 1, Name: "a", Min: 2, Max: 3, Lazy: true, Subs: []node{group(7, "below", letter('a'))}},
		{Kind: api.KNone, Subs: []node{empty(), group(8, "", empty())}},
		{Kind: api.KSet, Set: of('a', 'a'), Subs: []node{empty()}},
		{Kind: api.KByte, Name: "a", Subs: []node{group(9, "g"), none()}},
		{Kind: api.KAssert, Num: 1, Subs: []node{none()}},
		{Kind: api.KCat, Name: "a", Num: 3, Subs: []node{empty(), empty()}},
		{Kind: 0, Subs: []node{{Kind: 99, Subs: []node{group(1, "deep"), {}}}, {}}},
		cat(group(1, "", empty()), kind(77), group(3, "x", none()), alt()),
		alt(cat(), none(), alt(none(), alt(none(), cat(alt(empty()), repeat(0, 0, false))))),
	}
}

// deep are trees of the greatest depth, of one more, and of many more.
func deep() []node {
	var l []node
	for _, wrap := range []func(node) node{inGroup, inRepeat, inCat, inAlt, inUnknown} {
		for _, levels := range []int{api.MaxNest - 1, api.MaxNest, api.MaxNest + 300} {
			l = append(l, chain(levels, group(1, "end", empty()), wrap))
		}
	}
	return l
}

// all are nodes of all kinds.
func all() []node { return slices.Concat(valid(), odd(), deep()) }

// step is a node and its depth.
type step struct {
	depth int
	node  node
}

// flat lists the nodes of n in preorder with their depths, down to the depth deepest.
func flat(n node, deepest int) []step {
	var out []step
	rest := []step{{1, n}} // the next one at the end
	for len(rest) > 0 {
		x := rest[len(rest)-1]
		rest = rest[:len(rest)-1]
		if x.depth > deepest {
			continue
		}
		out = append(out, x)
		for _, sub := range slices.Backward(x.node.Subs) {
			rest = append(rest, step{x.depth + 1, sub})
		}
	}
	return out
}

// modelGroups lists the names of the groups.
func modelGroups(n node) []string {
	var out []string
	for _, x := range flat(n, api.MaxNest) {
		if x.node.Kind == api.KGroup {
			out = append(out, x.node.Name)
		}
	}
	return out
}

// modelDepth is the depth, but no more than one too deep.
func modelDepth(n node) int {
	deepest := 0
	for _, x := range flat(n, api.MaxNest+1) {
		deepest = max(deepest, x.depth)
	}
	return deepest
}

// modelNullable says whether n, at that depth, is nullable: it counts the nullable Subs.
func modelNullable(n node, depth int) bool {
	if depth > api.MaxNest {
		return false
	}
	count := 0
	for _, sub := range n.Subs {
		if modelNullable(sub, depth+1) {
			count++
		}
	}
	every := count == len(n.Subs)
	return map[int]bool{
		api.KEmpty:  true,
		api.KAssert: true,
		api.KGroup:  every,
		api.KCat:    every,
		api.KAlt:    count >= 1,
		api.KRepeat: n.Min == 0 || every,
	}[n.Kind]
}

// plain is n with nil in place of each empty slice.
func plain(n node) node {
	if len(n.Set) == 0 {
		n.Set = nil
	}
	var subs []node
	for _, sub := range n.Subs {
		subs = append(subs, plain(sub))
	}
	n.Subs = subs
	return n
}

// equal says whether all fields of two nodes are equal, by the library, however deep they are.
func equal(a, b node) bool { return reflect.DeepEqual(plain(a), plain(b)) }

// about describes a node in an error.
func about(n node) string {
	return "Kind " + strconv.Itoa(n.Kind) + ", size " + strconv.Itoa(len(flat(n, most)))
}

// random returns a tree of at most so many levels, mostly a valid one but for the groups' numbers and names.
func random(rnd *rand.Rand, levels int) node {
	k := 1 + rnd.IntN(9)
	if levels == 1 {
		k = 1 + rnd.IntN(5)
	}
	sub := func() node { return random(rnd, levels-1) }
	switch k {
	case api.KSet:
		lo := rnd.IntN(100)
		return set(lo, lo+rnd.IntN(3))
	case api.KAssert:
		return assert(1 + rnd.IntN(6))
	case api.KGroup:
		return group(1, "", sub())
	case api.KCat, api.KAlt:
		n := kind(k, sub(), sub())
		for rnd.IntN(2) == 0 {
			n.Subs = append(n.Subs, sub())
		}
		return n
	case api.KRepeat:
		least := rnd.IntN(3)
		return repeat(least, []int{-1, least, least + rnd.IntN(3)}[rnd.IntN(3)], rnd.IntN(2) == 0, sub())
	}
	return kind(k)
}

// inside lists where the nodes of n are, in preorder.
func inside(n *node) []*node {
	out := []*node{n}
	for i := range n.Subs {
		out = append(out, inside(&n.Subs[i])...)
	}
	return out
}

// number gives the groups of n their numbers.
func number(n *node) {
	last := 0
	for _, x := range inside(n) {
		if x.Kind == api.KGroup {
			last++
			x.Num = last
		}
	}
}

// pick returns one of the values.
func pick[T any](rnd *rand.Rand, values ...T) T { return values[rnd.IntN(len(values))] }

// spoil changes a field of n to something else, which may be allowed or not.
func spoil(rnd *rand.Rand, n *node) {
	switch rnd.IntN(7) {
	case 0:
		n.Kind = rnd.IntN(12) - 1
	case 1:
		n.Set = pick(rnd, nil, of(), of(1, 2), of(1, 2, 3, 4), of(2, 1), of(-1, 5), of(5, api.MaxRune+1), of('a', 'a', 'c', 'c'))
	case 2:
		n.Num += pick(rnd, -1, 1, 1, 2, 30)
	case 3:
		n.Name = pick(rnd, "", "a", "b", "1", "a-", "_", "a234567890123456789012345678901_", "a234567890123456789012345678901_3")
	case 4:
		n.Min = pick(rnd, -1, 0, 1, 2, api.MaxRepeat, api.MaxRepeat+1)
		n.Max = pick(rnd, -2, -1, 0, 1, 2, api.MaxRepeat, api.MaxRepeat+1)
	case 5:
		n.Lazy = !n.Lazy
	case 6:
		n.Subs = pick(rnd, nil, n.Subs[:len(n.Subs)/2], append([]node{empty()}, n.Subs...))
	}
}

// rename gives some groups of n a name, from a few.
func rename(rnd *rand.Rand, n *node) {
	for _, x := range inside(n) {
		if x.Kind == api.KGroup && rnd.IntN(3) == 0 {
			x.Name = pick(rnd, "a", "b", "c", "d", "A", "aa", "_")
		}
	}
}

// many returns many different trees, most of them invalid for some reason.
func many(seed uint64) []node {
	rnd := rand.New(rand.NewPCG(6, seed))
	var l []node
	for range 6000 {
		n := random(rnd, 1+rnd.IntN(6))
		if rnd.IntN(50) == 0 { // one with as many groups as there may be, or more
			for n = cat(n, empty()); len(modelGroups(n)) < 28+rnd.IntN(8); {
				n.Subs = append(n.Subs, group(1, "", random(rnd, 2)))
			}
		}
		number(&n)
		if rnd.IntN(2) == 0 {
			rename(rnd, &n)
		}
		for range rnd.IntN(3) {
			spoil(rnd, pick(rnd, inside(&n)...))
		}
		l = append(l, n)
	}
	return l
}

func TestSize(t *testing.T) {
	for i, c := range []struct {
		n    node
		want int
	}{
		{empty(), 1},
		{node{}, 1},
		{set(1, 2, 4, 5), 1},
		{cat(letter('a'), letter('b')), 3}, // the document's example
		{cat(), 1},
		{alt(star(empty()), group(1, "x", cat(none(), none()))), 7},
		{kind(77, kind(0, empty()), set()), 4},
		{node{Kind: api.KByte, Subs: []node{empty(), empty()}}, 3},
		{chain(api.MaxNest-1, empty(), star), api.MaxNest},
		{chain(api.MaxNest, empty(), star), api.MaxNest},
		{chain(5000, empty(), star), api.MaxNest},
		{chain(api.MaxNest-2, cat(empty(), empty(), empty()), star), api.MaxNest + 2},
		{chain(api.MaxNest-1, cat(empty(), empty(), empty()), star), api.MaxNest},
	} {
		if got := tree.Size(c.n); got != c.want {
			t.Errorf("%d: Size = %d, want %d", i, got, c.want)
		}
	}
}

func TestDepth(t *testing.T) {
	for i, c := range []struct {
		n    node
		want int
	}{
		{empty(), 1},
		{node{}, 1},
		{cat(), 1},
		{cat(letter('a'), letter('b')), 2}, // the document's example
		{alt(star(star(empty())), empty()), 4},
		{alt(empty(), star(star(empty()))), 4},
		{alt(empty(), star(star(empty())), star(empty())), 4},
		{kind(77, kind(0, set(), kind(-1))), 3},
		{node{Kind: api.KEmpty, Subs: []node{empty()}}, 2},
		{chain(api.MaxNest-2, empty(), star), api.MaxNest - 1},
		{chain(api.MaxNest-1, empty(), star), api.MaxNest},
		{chain(api.MaxNest, empty(), star), api.MaxNest + 1},
		{chain(api.MaxNest+1, empty(), star), api.MaxNest + 1},
		{chain(5000, empty(), star), api.MaxNest + 1},
		{cat(empty(), chain(api.MaxNest-1, empty(), star), empty()), api.MaxNest + 1},
		{cat(empty(), chain(api.MaxNest-2, empty(), star), empty()), api.MaxNest},
	} {
		if got := tree.Depth(c.n); got != c.want {
			t.Errorf("%d: Depth = %d, want %d", i, got, c.want)
		}
	}
}

func TestGroups(t *testing.T) {
	for i, c := range []struct {
		n    node
		want []string
	}{
		{empty(), nil},
		{node{Kind: api.KCat, Name: "x"}, nil},
		{group(1, "x", empty()), []string{"x"}},
		{group(1, "", empty()), []string{""}},
		{group(0, "\xFF "), []string{"\xFF "}},
		{group(1, "c", group(2, "a", group(3, "b"))), []string{"c", "a", "b"}},
		{cat(group(2, "c", group(9, "a")), star(group(1, ""))), []string{"c", "a", ""}},
		{group(1, "x", group(1, "x"), group(1, "x")), []string{"x", "x", "x"}},
		{kind(77, group(1, "x")), []string{"x"}},
		{node{Kind: api.KNone, Subs: []node{group(1, "x")}}, []string{"x"}},
		{chain(api.MaxNest-1, group(1, "x"), star), []string{"x"}},
		{chain(api.MaxNest-1, group(1, "x", group(2, "y")), star), []string{"x"}},
		{chain(api.MaxNest, group(1, "x"), star), nil},
		{cat(chain(api.MaxNest, group(1, "x"), star), group(1, "y")), []string{"y"}},
	} {
		if got := tree.Groups(c.n); !slices.Equal(got, c.want) {
			t.Errorf("%d: Groups = %q, want %q", i, got, c.want)
		}
	}
}

func TestNullable(t *testing.T) {
	yes, no := empty(), none()
	for i, c := range []struct {
		n    node
		want bool
	}{
		{empty(), true},
		{assert(api.ANoWord), true},
		{assert(0), true},
		{node{Kind: api.KEmpty, Subs: []node{no}}, true},
		{node{Kind: api.KAssert, Subs: []node{no}}, true},
		{none(), false},
		{letter('a'), false},
		{set(), false},
		{anyByte(), false},
		{node{Kind: api.KNone, Subs: []node{yes}}, false},
		{node{Kind: api.KSet, Subs: []node{yes}}, false},
		{node{Kind: api.KByte, Subs: []node{yes}}, false},
		{node{}, false},
		{kind(0, yes), false},
		{kind(-1, yes), false},
		{kind(10, yes), false},
		{group(1, "", yes), true},
		{group(1, "", no), false},
		{group(1, ""), true},
		{group(1, "", yes, yes), true},
		{group(1, "", yes, no), false},
		{group(1, "", no, yes), false},
		{cat(yes, yes), true},
		{cat(yes, no), false},
		{cat(no, yes), false},
		{cat(no, no), false},
		{cat(), true},
		{cat(yes), true},
		{cat(no), false},
		{alt(yes, yes), true},
		{alt(yes, no), true},
		{alt(no, yes), true},
		{alt(no, no), false},
		{alt(no, no, no, yes, no), true},
		{alt(), false},
		{alt(yes), true},
		{alt(no), false},
		{repeat(0, -1, false, no), true},
		{repeat(0, 0, true, no), true},
		{repeat(1, -1, false, no), false},
		{repeat(1, 1, true, yes), true},
		{repeat(2, 0, false, no), false},
		{repeat(-1, 5, false, no), false},
		{repeat(-1, 5, false, yes), true},
		{repeat(0, 5, false), true},
		{repeat(1, 5, false), true},
		{repeat(1, 5, false, yes, yes), true},
		{repeat(1, 5, false, yes, no), false},
		{repeat(0, 5, false, no, no), true},
		{alt(cat(yes, letter('a')), group(1, "", cat(assert(1), repeat(3, 3, false, alt(no, yes))))), true},
		{alt(cat(yes, letter('a')), group(1, "", cat(assert(1), repeat(3, 3, false, alt(no, no))))), false},
	} {
		if got := tree.Nullable(c.n); got != c.want {
			t.Errorf("%d: Nullable = %v, want %v", i, got, c.want)
		}
	}
}

func TestNullableOfDeepNodes(t *testing.T) {
	for name, wrap := range wraps() {
		if !tree.Nullable(chain(api.MaxNest-1, empty(), wrap)) {
			t.Errorf("%s: a node at the depth MaxNest does not count", name)
		}
		for _, levels := range []int{api.MaxNest, api.MaxNest + 1, 5000} {
			if tree.Nullable(chain(levels, empty(), wrap)) {
				t.Errorf("%s: a node at the depth %d counts", name, levels+1)
			}
		}
	}
	for i, c := range []struct {
		last node // at the depth MaxNest
		want bool
	}{
		{alt(empty(), empty()), false},
		{cat(empty()), false},
		{cat(), true},
		{group(1, ""), true},
		{repeat(0, -1, false, empty()), true},
		{repeat(1, -1, false, empty()), false},
		{node{Kind: api.KEmpty, Subs: []node{empty()}}, true},
	} {
		if got := tree.Nullable(chain(api.MaxNest-1, c.last, inGroup)); got != c.want {
			t.Errorf("%d: Nullable = %v, want %v", i, got, c.want)
		}
	}
	if !tree.Nullable(alt(chain(5000, empty(), inCat), empty())) {
		t.Error("a node that is too deep hides another")
	}
}

func TestSame(t *testing.T) {
	n := node{Kind: 1, Set: of(2, 3, 4, 5), Num: 6, Name: "seven", Min: 8, Max: 9, Lazy: true, Subs: []node{empty(), none()}}
	if !tree.Same(n, clone(n)) {
		t.Error("a copy is not the same")
	}
	for i, change := range []func(*node){
		func(m *node) { m.Kind = 2 },
		func(m *node) { m.Set[0].Lo++ },
		func(m *node) { m.Set[1].Hi-- },
		func(m *node) { m.Set = m.Set[:1] },
		func(m *node) { m.Set = nil },
		func(m *node) { m.Set = of(2, 5) },
		func(m *node) { m.Set[0], m.Set[1] = m.Set[1], m.Set[0] },
		func(m *node) { m.Num = -6 },
		func(m *node) { m.Name = "Seven" },
		func(m *node) { m.Name = "" },
		func(m *node) { m.Name = "seven\x00" },
		func(m *node) { m.Min = 9 },
		func(m *node) { m.Max = 8 },
		func(m *node) { m.Min, m.Max = 9, 8 },
		func(m *node) { m.Lazy = false },
		func(m *node) { m.Subs = nil },
		func(m *node) { m.Subs = m.Subs[:1] },
		func(m *node) { m.Subs = append(m.Subs, empty()) },
		func(m *node) { m.Subs[0], m.Subs[1] = m.Subs[1], m.Subs[0] },
		func(m *node) { m.Subs[0].Num = 1 },
		func(m *node) { m.Subs[1].Subs = []node{{}} },
		func(m *node) { m.Subs[1].Set = of(0, 0) },
	} {
		m := clone(n)
		change(&m)
		if tree.Same(n, m) || tree.Same(m, n) {
			t.Errorf("%d: two different nodes are the same", i)
		}
		if below, other := star(star(n)), star(star(m)); tree.Same(below, other) || tree.Same(other, below) {
			t.Errorf("%d: two different trees are the same", i)
		}
	}
}

func TestNilAndEmptySlicesAreTheSame(t *testing.T) {
	a := cat(node{Kind: 1, Set: []api.Range{}, Subs: []node{}}, node{Kind: 2, Set: of(1, 1, 2, 2)[:0]})
	b := cat(node{Kind: 1}, node{Kind: 2, Subs: []node{empty()}[:0]})
	if !tree.Same(a, b) || !tree.Same(b, a) {
		t.Error("nil and empty differ")
	}
	if tree.Check(a) != api.OK || tree.Check(b) != api.OK {
		t.Error("empty slices are rejected")
	}
}

func TestSameOfDeepNodes(t *testing.T) {
	for name, wrap := range wraps() {
		for levels := api.MaxNest - 3; levels <= api.MaxNest+3; levels++ {
			n := chain(levels, empty(), wrap)
			if got := tree.Same(n, n); got != (levels < api.MaxNest) {
				t.Errorf("%s: a tree of the depth %d is itself: %v", name, levels+1, got)
			}
			if m := chain(levels, none(), wrap); tree.Same(n, m) {
				t.Errorf("%s: trees of the depth %d are the same in spite of their last nodes", name, levels+1)
			}
		}
		if n, m := chain(api.MaxNest-1, empty(), wrap), chain(api.MaxNest, empty(), wrap); tree.Same(n, m) || tree.Same(m, n) {
			t.Errorf("%s: trees of different depths are the same", name)
		}
	}
}

func TestEveryTwoNodesAreTheSameIfTheirFieldsAre(t *testing.T) {
	few := slices.Concat(shallow(), odd())
	for i, a := range few {
		for k, b := range few {
			want := equal(a, b)
			if got := tree.Same(a, b); got != want {
				t.Fatalf("Same(%d, %d) = %v, want %v", i, k, got, want)
			}
		}
	}
	for _, seed := range []uint64{1, 2} {
		l := many(seed)
		for i, a := range l {
			b := l[(i+1)%len(l)]
			if !tree.Same(a, clone(a)) || tree.Same(a, b) != equal(a, b) {
				t.Fatalf("Same of %s and %s", about(a), about(b))
			}
		}
	}
}

func TestWalk(t *testing.T) {
	a, b := letter('a'), set()
	inner := alt(b, kind(77))
	outer := star(inner)
	n := cat(a, outer, group(5, "x"))
	want := []step{{1, n}, {2, a}, {2, outer}, {3, inner}, {4, b}, {4, kind(77)}, {2, group(5, "x")}}
	i := 0
	for depth, x := range tree.Walk(n) {
		if i == len(want) || depth != want[i].depth || !equal(x, want[i].node) {
			t.Fatalf("step %d is at the depth %d, Kind %d", i, depth, x.Kind)
		}
		i++
	}
	if i != len(want) {
		t.Fatalf("%d steps, want %d", i, len(want))
	}
}

// follows holds all functions but Check, Name and Same against their definitions.
func follows(t *testing.T, n node) {
	t.Helper()
	steps := flat(n, api.MaxNest)
	if got := tree.Size(n); got != len(steps) {
		t.Fatalf("Size of %s = %d, want %d", about(n), got, len(steps))
	}
	if got, want := tree.Depth(n), modelDepth(n); got != want {
		t.Fatalf("Depth of %s = %d, want %d", about(n), got, want)
	}
	if got, want := tree.Groups(n), modelGroups(n); !slices.Equal(got, want) {
		t.Fatalf("Groups of %s = %q, want %q", about(n), got, want)
	}
	if got, want := tree.Nullable(n), modelNullable(n, 1); got != want {
		t.Fatalf("Nullable of %s = %v, want %v", about(n), got, want)
	}
	i := 0
	for depth, x := range tree.Walk(n) {
		if i == len(steps) || depth != steps[i].depth {
			t.Fatalf("step %d of %s is at the depth %d", i, about(n), depth)
		}
		// Of a tree of hundreds of levels some nodes are compared: a comparison takes as many steps as there are below it.
		if (len(steps) < 500 || i < 2 || i > 990) && !equal(x, steps[i].node) {
			t.Fatalf("step %d of %s is another node", i, about(n))
		}
		i++
	}
	if i != len(steps) {
		t.Fatalf("Walk of %s has %d steps, want %d", about(n), i, len(steps))
	}
}

func TestNodesFollowTheDefinitions(t *testing.T) {
	for _, n := range all() {
		follows(t, n)
	}
	for _, n := range many(3) {
		follows(t, n)
	}
}

func TestWalkStopsWhereTheCallerDoes(t *testing.T) {
	for _, n := range slices.Concat(shallow(), odd(), many(4)[:100]) {
		walk := tree.Walk(n)
		steps := flat(n, api.MaxNest)
		for last := 1; last <= len(steps); last++ {
			made := 0
			walk(func(depth int, x node) bool {
				if made >= last || depth != steps[made].depth || !equal(x, steps[made].node) {
					t.Fatalf("%s: step %d of %d", about(n), made, last)
				}
				made++
				return made < last
			})
			if made != last {
				t.Fatalf("%s: %d steps, want %d", about(n), made, last)
			}
		}
	}
}

func TestWalkOfDeepNodesStopsWhereTheCallerDoes(t *testing.T) {
	for name, wrap := range wraps() {
		for _, last := range []int{1, 2, 500, 999} {
			made := 0
			for depth := range tree.Walk(chain(1200, empty(), wrap)) {
				made++
				if depth > made {
					t.Fatalf("%s: step %d is at the depth %d", name, made, depth)
				}
				if made == last {
					break
				}
			}
			if made != last {
				t.Errorf("%s: %d steps, want %d", name, made, last)
			}
		}
	}
}

func TestWalkCanBeRangedOverAgain(t *testing.T) {
	for _, n := range slices.Concat(shallow(), odd()) {
		walk := tree.Walk(n)
		for range 3 {
			i := 0
			steps := flat(n, api.MaxNest)
			for depth, x := range walk {
				if depth != steps[i].depth || !equal(x, steps[i].node) {
					t.Fatalf("%s: step %d", about(n), i)
				}
				i++
				for range walk { // one within the other
					break
				}
			}
		}
	}
}

func TestValidTreesConsistOfValidSubtrees(t *testing.T) {
	seen := 0
	for _, n := range slices.Concat(valid(), many(5)) {
		if tree.Check(n) != api.OK {
			continue
		}
		for depth, x := range tree.Walk(n) {
			if depth > 20 && depth%100 != 0 {
				continue
			}
			number(&x)
			if e := tree.Check(x); e != api.OK {
				t.Fatalf("%s is valid, but at the depth %d %s is not: %d", about(n), depth, about(x), e)
			}
			seen++
		}
	}
	if seen < 5000 {
		t.Errorf("only %d subtrees", seen)
	}
}

func TestWalksHaveAsManyStepsAsThereAreNodes(t *testing.T) {
	for _, n := range slices.Concat(all(), many(6)) {
		steps := 0
		for range tree.Walk(n) {
			steps++
		}
		if size := tree.Size(n); steps != size {
			t.Fatalf("%s: %d steps, but the size %d", about(n), steps, size)
		}
		below := 1
		for _, sub := range n.Subs {
			below += tree.Size(sub)
		}
		if tree.Depth(n) <= api.MaxNest && below != steps {
			t.Fatalf("%s: %d steps, but with the sizes of the Subs %d", about(n), steps, below)
		}
	}
}

func TestAWideTree(t *testing.T) {
	const width = 200000
	n := kind(api.KCat)
	for range width {
		n.Subs = append(n.Subs, star(letter('a')))
	}
	n = alt(n, none())
	if e := tree.Check(n); e != api.OK {
		t.Error("Check:", e)
	}
	if got := tree.Size(n); got != 2*width+3 {
		t.Error("Size:", got)
	}
	if !tree.Nullable(n) || !tree.Same(n, n) || tree.Depth(n) != 4 || len(tree.Groups(n)) != 0 {
		t.Error("a wide tree is not what it is")
	}
	steps := 0
	for range tree.Walk(n) {
		steps++
	}
	if steps != 2*width+3 {
		t.Error("Walk:", steps)
	}
}

func TestAVeryDeepTree(t *testing.T) {
	for name, wrap := range wraps() {
		n := chain(1<<16-1, group(1, "x", empty()), wrap)
		if e := tree.Check(n); e != api.ErrDeep {
			t.Errorf("%s: Check = %d", name, e)
		}
		if tree.Depth(n) != api.MaxNest+1 || tree.Size(n) < api.MaxNest || tree.Nullable(n) || tree.Same(n, n) {
			t.Errorf("%s: a very deep tree is not what it is", name)
		}
		if got := len(tree.Groups(n)); got != 0 && name != "group" {
			t.Errorf("%s: %d groups", name, got)
		}
		made := 0
		for depth := range tree.Walk(n) {
			if made++; depth > made || made == 20 {
				break
			}
		}
		if made != 20 {
			t.Errorf("%s: %d steps", name, made)
		}
	}
}

func TestATreeThatIsItsOwnSub(t *testing.T) {
	subs := []node{repeat(1, -1, false)}
	subs[0].Subs = subs
	n := subs[0]
	if e := tree.Check(n); e != api.ErrDeep {
		t.Errorf("Check = %d", e)
	}
	if tree.Depth(n) != api.MaxNest+1 || tree.Size(n) != api.MaxNest || len(tree.Groups(n)) != 0 || tree.Nullable(n) || tree.Same(n, n) {
		t.Error("a tree without an end is not what it is")
	}
	made := 0
	for depth, x := range tree.Walk(n) {
		if made++; depth != made || x.Kind != api.KRepeat || len(x.Subs) != 1 || made == 20 {
			break
		}
	}
	if made != 20 {
		t.Errorf("%d steps", made)
	}
	// One with two Subs has more nodes than can be visited: the first one that is too deep decides.
	subs = []node{kind(api.KCat), kind(api.KCat)}
	subs[0].Subs, subs[1].Subs = subs, subs
	if n = subs[0]; tree.Check(n) != api.ErrDeep || tree.Depth(n) != api.MaxNest+1 || tree.Nullable(n) || tree.Same(n, n) {
		t.Error("a tree with twice as many nodes at each level is not what it is")
	}
}
