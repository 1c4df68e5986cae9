package show_test

import (
	"math"
	"math/rand/v2"
	"slices"
	"strconv"
	"strings"
	"testing"

	"burin/api"
	"burin/show"
	check "burin/tree"
)

// longest is how many bytes a pattern may have.
const longest = 4096

// letters are that many letters a.
func letters(many int) []node { return slices.Repeat([]node{a()}, many) }

// row is the tree of that many groups, one after another, each with a letter.
func row(groups int) node {
	n := cat(empty())
	for num := range groups {
		n.Subs = append(n.Subs, group(num+1, a()))
	}
	return n
}

// chain puts n under as many further nodes, each made by wrap.
func chain(levels int, n node, wrap func(node) node) node {
	for range levels {
		n = wrap(n)
	}
	return n
}

// alone repeats n once: with it alone no pattern is longer than it has to be.
func alone(n node) node { return repeat(1, 1, n) }

// refusal is a node that is no tree, and the error of Check for it.
type refusal struct {
	n node
	e api.Code
}

// refusals are nodes that Check does not accept.
func refusals() []refusal {
	within := func(subs ...node) node { return node{Kind: 9, Max: -1, Subs: subs} }
	return []refusal{
		// kinds that there are not
		{node{}, api.ErrTree}, {node{Kind: -1}, api.ErrTree}, {node{Kind: 10}, api.ErrTree}, {node{Kind: math.MaxInt}, api.ErrTree}, {node{Kind: math.MinInt}, api.ErrTree},

		// fields that are not those of the kind
		{node{Kind: 1, Num: 1}, api.ErrTree}, {node{Kind: 1, Subs: letters(1)}, api.ErrTree}, {node{Kind: 2, Set: of('a', 'a')}, api.ErrTree}, {node{Kind: 4, Name: "x"}, api.ErrTree}, {node{Kind: 2, Lazy: true}, api.ErrTree}, {node{Kind: 4, Min: 1}, api.ErrTree}, {node{Kind: 1, Max: -1}, api.ErrTree},
		{set(), api.ErrTree}, {set('b', 'a'), api.ErrTree}, {set('a', 'a', 'b', 'b'), api.ErrTree}, {set('c', 'c', 'a', 'a'), api.ErrTree}, {set(-1, 0), api.ErrTree}, {set(-1, -1), api.ErrTree}, {set(top+1, top+1), api.ErrTree}, {set(0, top+1), api.ErrTree}, {set(math.MinInt, math.MaxInt), api.ErrTree}, {node{Kind: 3, Set: of('a', 'a'), Num: 1}, api.ErrTree}, {node{Kind: 3, Set: of('a', 'a'), Subs: letters(1)}, api.ErrTree},
		{assert(0), api.ErrTree}, {assert(7), api.ErrTree}, {assert(-1), api.ErrTree}, {assert(math.MaxInt), api.ErrTree}, {node{Kind: 5, Num: 1, Subs: letters(1)}, api.ErrTree},
		{node{Kind: 6, Num: 1}, api.ErrTree}, {node{Kind: 6, Num: 1, Subs: letters(2)}, api.ErrTree}, {named(1, "1x", a()), api.ErrTree}, {named(1, "x>", a()), api.ErrTree}, {named(1, "\u00E9", a()), api.ErrTree}, {named(1, strings.Repeat("n", 33), a()), api.ErrTree}, {group(0, a()), api.ErrTree}, {group(-1, a()), api.ErrTree},
		{cat(), api.ErrTree}, {cat(a()), api.ErrTree}, {alt(), api.ErrTree}, {alt(a()), api.ErrTree}, {node{Kind: 7, Num: 1, Subs: letters(2)}, api.ErrTree}, {node{Kind: 8, Lazy: true, Subs: letters(2)}, api.ErrTree},
		{within(), api.ErrTree}, {within(a(), b()), api.ErrTree}, {repeat(-1, -1, a()), api.ErrTree}, {repeat(0, -2, a()), api.ErrTree}, {repeat(2, 1, a()), api.ErrTree}, {repeat(1001, 1001, a()), api.ErrTree}, {repeat(0, 1001, a()), api.ErrTree}, {repeat(1001, -1, a()), api.ErrTree}, {repeat(math.MinInt, math.MaxInt, a()), api.ErrTree},

		// groups: their numbers, how many there are, their names
		{group(2, a()), api.ErrTree}, {cat(group(1, a()), group(1, b())), api.ErrTree}, {cat(group(1, a()), group(3, b())), api.ErrTree}, {cat(group(2, a()), group(1, b())), api.ErrTree}, {group(2, group(1, a())), api.ErrTree},
		{row(32), api.ErrLong}, {row(33), api.ErrLong}, {cat(named(1, "x", a()), named(2, "x", b())), api.ErrThere}, {named(1, "x", group(2, named(3, "x", a()))), api.ErrThere}, {alt(star(named(1, "y_1", a())), named(2, "y_1", b())), api.ErrThere},

		// too deep
		{chain(1000, a(), alone), api.ErrDeep}, {chain(1000, empty(), func(n node) node { return cat(n, empty()) }), api.ErrDeep}, {chain(1<<16, a(), alone), api.ErrDeep}, {chain(1000, node{}, alone), api.ErrDeep},
	}
}

func TestRefused(t *testing.T) {
	for _, x := range refusals() {
		refused(t, x.n, x.e)
		if x.e == api.ErrDeep {
			continue
		}
		// as a part, also where what stands before it would be too long a pattern
		refused(t, alone(x.n), x.e)
		refused(t, cat(a(), x.n), x.e)
		refused(t, cat(x.n, a()), x.e)
		refused(t, alt(b(), star(x.n)), x.e)
		refused(t, cat(append(letters(longest+1), x.n)...), x.e)
		refused(t, cat(append([]node{x.n}, letters(longest+1)...)...), x.e)
		refused(t, alt(cat(letters(longest)...), alone(alone(x.n)), a()), x.e)
	}
	for _, x := range refusals() {
		if x.e == api.ErrDeep {
			refused(t, cat(append(letters(longest+1), x.n)...), x.e)
			refused(t, cat(node{}, x.n), x.e) // the depth is examined first
		}
	}
}

func TestTheFirstErrorOfCheck(t *testing.T) {
	refused(t, cat(row(32), set()), api.ErrLong)
	refused(t, cat(set(), row(32)), api.ErrTree)
	twice := cat(named(1, "x", a()), named(2, "x", a()))
	refused(t, cat(twice, set()), api.ErrThere)
	refused(t, alt(set(), twice), api.ErrTree)
	refused(t, cat(twice, group(4, a())), api.ErrThere)
	refused(t, cat(append(letters(longest+1), twice)...), api.ErrThere)
	refused(t, cat(append([]node{twice}, letters(longest+1)...)...), api.ErrThere)
}

// A list of Subs that contains itself has no end.
func TestAListThatContainsItself(t *testing.T) {
	n := alone(empty())
	n.Subs[0] = n
	refused(t, n, api.ErrDeep)
	n = cat(a(), empty())
	n.Subs[1] = star(n)
	refused(t, n, api.ErrDeep)
}

// Any nodes, mostly none that Check accepts: the errors are those of Check.
func TestAnyNodes(t *testing.T) {
	random := rand.New(rand.NewPCG(10, 1))
	numbers := []int{-2, -1, 0, 0, 0, 0, 0, 0, 1, 1, 2, 7, 1000, 1001, top, math.MaxInt, math.MinInt}
	some := func() int { return numbers[random.IntN(len(numbers))] }
	var spoiled func(levels int) node
	spoiled = func(levels int) node {
		n := node{Kind: random.IntN(11)}
		for range random.IntN(3) {
			switch random.IntN(6) {
			case 0:
				n.Set = of(some(), some())
			case 1:
				n.Num = some()
			case 2:
				n.Name = []string{"x", "y", "1", ")"}[random.IntN(4)]
			case 3:
				n.Min = some()
			case 4:
				n.Max = some()
			case 5:
				n.Lazy = true
			}
		}
		for range random.IntN(3) * min(levels, 1) {
			n.Subs = append(n.Subs, spoiled(levels-1))
		}
		return n
	}
	good := 0
	for range 200_000 {
		n := spoiled(random.IntN(4))
		if e := check.Check(n); e != api.OK {
			refused(t, n, e)
			continue
		}
		good++
		printed(t, n, model(n))
	}
	if good < 1_000 {
		t.Errorf("only %d nodes were trees", good)
	}
}

// fits demands that n has the pattern s, if that is not too long.
func fits(t *testing.T, n node, s string) {
	t.Helper()
	if len(s) <= longest {
		printed(t, n, s)
	} else {
		refused(t, n, api.ErrLong)
	}
}

func TestLongPatterns(t *testing.T) {
	for _, many := range []int{2, 100, 4000, longest - 1, longest, longest + 1, longest + 2, 10_000, 100_000} {
		s := strings.Repeat("a", many)
		fits(t, cat(letters(many)...), s)
	}
	// each of these a byte shorter or longer by one letter
	for by := -2; by <= 2; by++ {
		fits(t, cat(append(letters(longest-7+by), one('-'), b())...), strings.Repeat("a", longest-7+by)+`\x{2d}b`)
		fits(t, group(1, cat(letters(longest-2+by)...)), "("+strings.Repeat("a", longest-2+by)+")")
		fits(t, star(cat(letters(longest-5+by)...)), "(?:"+strings.Repeat("a", longest-5+by)+")*")
		fits(t, alt(cat(letters(longest-2+by)...), b()), strings.Repeat("a", longest-2+by)+"|b")
	}
}

// filler is trees of one node whose patterns have that many bytes together, and these patterns.
func filler(bytes int) ([]node, string) {
	long, short := bytes/10, bytes%10
	nodes := append(slices.Repeat([]node{one(top)}, long), letters(short)...)
	return nodes, strings.Repeat(`\x{10ffff}`, long) + strings.Repeat("a", short)
}

// The limit is crossed by each byte of each tree: the last one of the pattern, or one with more behind it.
func TestTheLimitIsCrossedAnywhere(t *testing.T) {
	for _, x := range all() {
		part := wrapped(x, 7, 8)
		for rest := range len(part) + 3 {
			before := longest - len(part) + rest - 1 // so that the last one that fits, too, is among them
			l, s := filler(before)
			fits(t, cat(append(l, x.n)...), s+part)
			fits(t, cat(append(l[1:], x.n, cat(b(), c()))...), strings.TrimPrefix(s, `\x{10ffff}`)+part+"(?:bc)")
			l, s = filler(before - 4)
			fits(t, alt(cat(l...), star(group(1, renumbered(x.n, 1)))), s+"|("+x.s+")*")
		}
	}
}

// nested is what stands within as many parentheses, which capture or not, and the pattern of it.
func nested(levels int, x tree, wrap func(num int, x tree) tree) tree {
	for num := levels; num > 0; num-- {
		x = wrap(num, x)
	}
	return x
}

func TestTheLimitIsCrossedByClosingParentheses(t *testing.T) {
	wraps := []func(num int, x tree) tree{
		func(num int, x tree) tree { return tree{group(num, x.n), "(" + x.s + ")"} },
		func(num int, x tree) tree {
			name := "n" + strconv.Itoa(num)
			return tree{named(num, name, x.n), "(?P<" + name + ">" + x.s + ")"}
		},
		func(num int, x tree) tree { return tree{cat(b(), x.n), "b" + wrapped(x, 7, 8)} },
		func(num int, x tree) tree { return tree{cat(x.n, b()), wrapped(x, 7, 8) + "b"} },
		func(num int, x tree) tree { return tree{alt(x.n, b()), wrapped(x, 8) + "|b"} },
		func(num int, x tree) tree { return tree{alt(b(), x.n), "b|" + wrapped(x, 8)} },
		func(num int, x tree) tree { return tree{lazy(0, -1, x.n), wrapped(x, 7, 8, 9) + "*?"} },
		func(num int, x tree) tree {
			x = tree{cat(b(), x.n), "b" + wrapped(x, 7, 8)}
			return tree{group(num, x.n), "(" + x.s + ")"}
		},
	}
	for _, wrap := range wraps {
		for _, levels := range []int{1, 2, 10, 31} {
			around := len(nested(levels, tree{cat(letters(2)...), "aa"}, wrap).s) - 2
			for rest := -2; rest <= around+2; rest++ {
				inner := longest - around + rest
				x := nested(levels, tree{cat(letters(inner)...), strings.Repeat("a", inner)}, wrap)
				fits(t, x.n, x.s)
			}
		}
	}
}

// Sets that are long, and one that is far too long, alone and as parts.
func TestLongSets(t *testing.T) {
	for many := 2; many < 900; many += 1 + many/10 {
		for _, width := range []int{0, 1} {
			n, s := node{Kind: api.KSet}, "["
			for i := range many {
				lo := 0x20 + 5*i
				n.Set = append(n.Set, api.Range{Lo: lo, Hi: lo + width})
				s += `\x{` + strconv.FormatInt(int64(lo), 16) + "}"
				if width > 0 {
					s += `-\x{` + strconv.FormatInt(int64(lo+1), 16) + "}"
				}
			}
			s += "]"
			fits(t, n, s)
			fits(t, star(n), s+"*")
			fits(t, cat(n, a()), s+"a")
		}
	}
	var every []api.Range
	for r := 0; r <= top; r += 2 {
		every = append(every, api.Range{Lo: r, Hi: r})
	}
	refused(t, node{Kind: api.KSet, Set: every}, api.ErrLong)
	refused(t, group(1, star(node{Kind: api.KSet, Set: every})), api.ErrLong)
}

// Trees of the greatest depth, whose patterns fit or do not.
func TestDeepTrees(t *testing.T) {
	// Three levels take the least bytes: only the KAlt is wrapped.
	three := func(n node) node { return cat(b(), repeat(0, -1, alt(a(), n))) }
	for _, x := range []tree{{c(), "c"}, {star(c()), "c*"}, {group(1, c()), "(c)"}, {empty(), "(?:)"}} {
		for _, times := range []int{1, 2, 100, 332} {
			printed(t, chain(times, x.n, three), strings.Repeat("b(?:a|", times)+x.s+strings.Repeat(")*", times))
		}
	}
	deepest := chain(333, c(), three) // 1000 levels
	s := strings.Repeat("b(?:a|", 333) + "c" + strings.Repeat(")*", 333)
	printed(t, deepest, s)
	refused(t, star(deepest), api.ErrDeep)
	refused(t, chain(333, cat(a(), b()), three), api.ErrDeep)

	refused(t, chain(999, a(), star), api.ErrLong)
	refused(t, chain(999, empty(), func(n node) node { return cat(n, a()) }), api.ErrLong)
	fits(t, chain(819, a(), star), strings.Repeat("(?:", 818)+"a*"+strings.Repeat(")*", 818))
	fits(t, chain(820, a(), star), strings.Repeat("(?:", 819)+"a*"+strings.Repeat(")*", 819))
	fits(t, chain(821, a(), star), strings.Repeat("(?:", 820)+"a*"+strings.Repeat(")*", 820))
}

// A tree that is too long does not matter to the next one.
func TestAfterAnError(t *testing.T) {
	for range 3 {
		refused(t, group(1, cat(letters(longest)...)), api.ErrLong)
		refused(t, group(2, a()), api.ErrTree)
		printed(t, group(1, a()), "(a)")
		if s, e := show.Show(cat(letters(longest)...)); len(s) != longest || e != api.OK {
			t.Errorf("%d bytes, %d", len(s), int(e))
		}
	}
}
