package norm_test

import (
	"slices"
	"strconv"
	"strings"
	"testing"

	"burin/api"
	"burin/norm"
	"burin/parse"
)

type node = api.Node

// of makes a list of the ends of its ranges.
func of(ends ...int) []api.Range {
	var l []api.Range
	for i := 0; i < len(ends); i += 2 {
		l = append(l, api.Range{Lo: ends[i], Hi: ends[i+1]})
	}
	return l
}

// The kinds of nodes.

func empty() node           { return node{Kind: 1} }
func none() node            { return node{Kind: 2} }
func set(ends ...int) node  { return node{Kind: 3, Set: of(ends...)} }
func one(r int) node        { return set(r, r) }
func anyByte() node         { return node{Kind: 4} }
func assert(num int) node   { return node{Kind: 5, Num: num} }
func cat(subs ...node) node { return node{Kind: 7, Subs: subs} }
func alt(subs ...node) node { return node{Kind: 8, Subs: subs} }

func kind(k int, subs ...node) node { return node{Kind: k, Subs: subs} }

func group(num int, sub node) node { return node{Kind: 6, Num: num, Subs: []node{sub}} }

func named(num int, name string, sub node) node {
	return node{Kind: 6, Num: num, Name: name, Subs: []node{sub}}
}

func repeat(low, high int, sub node) node {
	return node{Kind: 9, Min: low, Max: high, Subs: []node{sub}}
}

func lazy(low, high int, sub node) node {
	return node{Kind: 9, Min: low, Max: high, Lazy: true, Subs: []node{sub}}
}

func star(sub node) node { return repeat(0, -1, sub) }

// alone repeats n once, which adds a level to a tree, but nothing to its core.
func alone(n node) node { return repeat(1, 1, n) }

// never repeats n 0 times.
func never(n node) node { return repeat(0, 0, n) }

// The letters that the tests need most.

func a() node { return one('a') }
func b() node { return one('b') }
func c() node { return one('c') }

// letters are that many letters a.
func letters(many int) []node { return slices.Repeat([]node{a()}, many) }

// chain puts n under as many further nodes, each made by wrap.
func chain(levels int, n node, wrap func(node) node) node {
	for range levels {
		n = wrap(n)
	}
	return n
}

// equal reports whether two trees are the same in all fields. It is a part of the tests, so that these do not trust
// another layer, and that depth does not matter.
func equal(x, y node) bool {
	fields := x.Kind == y.Kind && x.Num == y.Num && x.Name == y.Name && x.Min == y.Min && x.Max == y.Max && x.Lazy == y.Lazy
	return fields && slices.Equal(x.Set, y.Set) && slices.EqualFunc(x.Subs, y.Subs, equal)
}

// text is a tree for a reader.
func text(n node) string {
	out := []string{"kind " + strconv.Itoa(n.Kind)}
	for _, f := range []struct {
		name  string
		value int
	}{{"num", n.Num}, {"min", n.Min}, {"max", n.Max}} {
		if f.value != 0 {
			out = append(out, f.name+" "+strconv.Itoa(f.value))
		}
	}
	if n.Name != "" {
		out = append(out, strconv.Quote(n.Name))
	}
	if n.Lazy {
		out = append(out, "lazy")
	}
	for _, x := range n.Set {
		out = append(out, strconv.FormatInt(int64(x.Lo), 16)+"-"+strconv.FormatInt(int64(x.Hi), 16))
	}
	for _, sub := range n.Subs {
		out = append(out, text(sub))
	}
	return "(" + strings.Join(out, " ") + ")"
}

// cut shortens a long text for a reader.
func cut(s string) string {
	if len(s) > 400 {
		return s[:200] + " ... " + s[len(s)-200:]
	}
	return s
}

// cored demands a core, and what is promised of every core.
func cored(t *testing.T, n, want node) {
	t.Helper()
	got, e := norm.Core(n)
	if !equal(got, want) || e != api.OK {
		t.Errorf("Core(%s) = %s, %d, want %s, OK", cut(text(n)), cut(text(got)), int(e), cut(text(want)))
	}
	followed(t, n, got)
}

// followed demands that x, the core of n, is a core, is small enough, and is nullable exactly if n is.
func followed(t *testing.T, n, x node) {
	t.Helper()
	if e := norm.Check(x); e != api.OK {
		t.Errorf("Check = %d for %s, the core of %s", int(e), cut(text(x)), cut(text(n)))
	}
	if size, w := modelSize(x), norm.Weight(n); size > w {
		t.Errorf("%s, the core of %s, has %d nodes, but the weight is %d", cut(text(x)), cut(text(n)), size, w)
	}
	if modelNullable(x) != modelNullable(n) {
		t.Errorf("one of %s and its core %s is nullable", cut(text(n)), cut(text(x)))
	}
}

// refused demands an error of Core, with no tree.
func refused(t *testing.T, n node, want api.Code) {
	t.Helper()
	if x, e := norm.Core(n); !equal(x, node{}) || e != want {
		t.Errorf("Core(%s) = %s, %d, want no tree, %d", cut(text(n)), cut(text(x)), int(e), int(want))
	}
}

// pair is a tree and its core.
type pair struct{ n, core node }

// leaves are trees of one node, which are their own cores.
var leaves = []node{
	empty(), none(), a(), one(0), one(api.MaxRune), set('a', 'b', 'd', 'd'), set(0, 9, 11, api.MaxRune), set(0, api.MaxRune), anyByte(),
	assert(api.ABegin), assert(api.AEnd), assert(api.ALine), assert(api.ALineEnd), assert(api.AWord), assert(api.ANoWord),
}

// same are further trees that are their own cores.
var same = []node{
	group(1, a()), group(1, empty()), group(1, none()), group(1, group(2, group(3, a()))), group(1, cat(a(), b())), group(1, alt(a(), empty())), group(1, star(b())), group(1, assert(6)),
	cat(a(), b()), cat(a(), a()), cat(none(), anyByte(), assert(1), a()), cat(group(1, empty()), group(2, cat(a(), b()))), cat(a(), alt(b(), c())), cat(alt(a(), b()), c()), cat(star(a()), star(a())), cat(a(), lazy(0, 3, b()), c()),
	alt(a(), b()), alt(a(), a()), alt(empty(), empty()), alt(none(), anyByte(), assert(2), empty()), alt(cat(a(), b()), c()), alt(a(), cat(b(), alt(a(), c()))), alt(group(1, alt(a(), b())), c()), alt(star(alt(a(), b())), group(1, cat(b(), c()))), alt(empty(), star(a())),
	star(a()), lazy(0, -1, a()), repeat(0, 1, a()), lazy(0, 1, a()), repeat(0, 2, a()), lazy(0, 7, a()), repeat(0, 1000, a()), repeat(0, 1000, none()),
	star(none()), star(anyByte()), star(assert(3)), star(group(1, empty())), star(group(1, a())), repeat(0, 2, cat(a(), b())), lazy(0, 1, alt(a(), empty())), star(star(a())), repeat(0, 1, lazy(0, 1, star(a()))), lazy(0, 9, repeat(0, 9, a())), star(alt(empty(), empty())),
	cat(group(1, alt(cat(a(), star(group(2, cat(b(), c())))), empty())), repeat(0, 1, none()), alt(lazy(0, 4, group(3, a())), anyByte())),
}

// changed are trees with their cores.
var changed = []pair{
	// the document's examples
	{repeat(2, 4, a()), cat(a(), a(), repeat(0, 2, a()))},
	{cat(cat(a(), b()), c()), cat(a(), b(), c())},

	// groups
	{named(1, "x", a()), group(1, a())}, {named(1, "x", named(2, "y", empty())), group(1, group(2, empty()))}, {group(1, cat(cat(a(), b()), c())), group(1, cat(a(), b(), c()))}, {group(1, cat(empty(), empty())), group(1, empty())}, {group(1, cat(a(), empty())), group(1, a())}, {group(1, alt(a(), alt(b(), c()))), group(1, alt(a(), b(), c()))}, {named(1, "x", repeat(0, 0, named(2, "y", a()))), group(1, empty())}, {group(1, alone(group(2, alone(a())))), group(1, group(2, a()))},
	{cat(named(1, "x", a()), cat(group(2, b()), named(3, "z", c()))), cat(group(1, a()), group(2, b()), group(3, c()))}, {alt(named(1, "x", a()), alt(empty(), named(2, "y", b()))), alt(group(1, a()), empty(), group(2, b()))},

	// one after another: nothing, one tree or several remain
	{cat(empty(), empty()), empty()}, {cat(empty(), empty(), empty()), empty()}, {cat(cat(empty(), empty()), empty()), empty()}, {cat(never(a()), never(b())), empty()}, {cat(empty(), star(empty())), empty()},
	{cat(empty(), a()), a()}, {cat(a(), empty()), a()}, {cat(empty(), a(), empty()), a()}, {cat(never(b()), anyByte(), cat(empty(), empty())), anyByte()}, {cat(empty(), none()), none()}, {cat(empty(), assert(5)), assert(5)}, {cat(empty(), alt(a(), b())), alt(a(), b())}, {cat(star(a()), empty()), star(a())}, {cat(empty(), group(1, empty())), group(1, empty())}, {cat(empty(), cat(a(), b())), cat(a(), b())}, {cat(cat(a(), empty()), empty()), a()},
	{cat(a(), empty(), b()), cat(a(), b())}, {cat(empty(), a(), empty(), b(), empty()), cat(a(), b())}, {cat(a(), cat(b(), c())), cat(a(), b(), c())}, {cat(cat(a(), b()), cat(b(), c())), cat(a(), b(), b(), c())}, {cat(cat(cat(a(), b()), c()), cat(a(), cat(b(), cat(c(), a())))), cat(a(), b(), c(), a(), b(), c(), a())}, {cat(a(), cat(empty(), b()), never(c()), c()), cat(a(), b(), c())}, {cat(a(), cat(b(), empty(), cat(c(), empty())), a()), cat(a(), b(), c(), a())},
	{cat(a(), repeat(2, 2, b()), c()), cat(a(), b(), b(), c())}, {cat(repeat(1, -1, a()), lazy(1, -1, b())), cat(a(), star(a()), b(), lazy(0, -1, b()))}, {cat(a(), alt(cat(b(), cat(c(), a())), empty())), cat(a(), alt(cat(b(), c(), a()), empty()))}, {cat(a(), group(1, cat(b(), cat(c(), a())))), cat(a(), group(1, cat(b(), c(), a())))}, {cat(a(), star(cat(b(), cat(c(), a())))), cat(a(), star(cat(b(), c(), a())))},

	// alternatives, at every place
	{alt(alt(a(), b()), c()), alt(a(), b(), c())}, {alt(a(), alt(b(), c())), alt(a(), b(), c())}, {alt(a(), alt(b(), c()), a()), alt(a(), b(), c(), a())}, {alt(alt(a(), b()), alt(b(), c())), alt(a(), b(), b(), c())}, {alt(alt(alt(a(), b()), c()), alt(a(), alt(b(), alt(c(), a())))), alt(a(), b(), c(), a(), b(), c(), a())}, {alt(alt(empty(), empty()), empty()), alt(empty(), empty(), empty())},
	{alt(alone(alt(a(), b())), c()), alt(a(), b(), c())}, {alt(cat(empty(), alt(a(), b())), c()), alt(a(), b(), c())}, {alt(a(), cat(alt(b(), c()), empty())), alt(a(), b(), c())}, {alt(a(), repeat(2, 2, alt(b(), c()))), alt(a(), cat(alt(b(), c()), alt(b(), c())))}, {alt(a(), repeat(0, 1, alt(b(), alt(c(), a())))), alt(a(), repeat(0, 1, alt(b(), c(), a())))},
	{alt(cat(empty(), empty()), never(a())), alt(empty(), empty())}, {alt(cat(a(), cat(b(), c())), cat(empty(), b())), alt(cat(a(), b(), c()), b())}, {alt(group(1, alt(a(), alt(b(), c()))), b()), alt(group(1, alt(a(), b(), c())), b())}, {cat(alt(a(), alt(b(), c())), alt(alt(a(), b()), c())), cat(alt(a(), b(), c()), alt(a(), b(), c()))},

	// repetitions of one node
	{repeat(0, 0, a()), empty()}, {lazy(0, 0, a()), empty()}, {repeat(1, 1, a()), a()}, {lazy(1, 1, a()), a()}, {repeat(2, 2, a()), cat(a(), a())}, {lazy(2, 2, a()), cat(a(), a())}, {repeat(3, 3, a()), cat(a(), a(), a())}, {repeat(1000, 1000, a()), cat(letters(1000)...)},
	{repeat(1, -1, a()), cat(a(), star(a()))}, {lazy(1, -1, a()), cat(a(), lazy(0, -1, a()))}, {repeat(2, -1, a()), cat(a(), a(), star(a()))}, {lazy(3, -1, a()), cat(a(), a(), a(), lazy(0, -1, a()))}, {repeat(1000, -1, a()), cat(append(letters(1000), star(a()))...)},
	{repeat(1, 2, a()), cat(a(), repeat(0, 1, a()))}, {lazy(1, 2, a()), cat(a(), lazy(0, 1, a()))}, {repeat(1, 3, a()), cat(a(), repeat(0, 2, a()))}, {lazy(2, 4, a()), cat(a(), a(), lazy(0, 2, a()))}, {repeat(1, 1000, a()), cat(a(), repeat(0, 999, a()))}, {repeat(999, 1000, a()), cat(append(letters(999), repeat(0, 1, a()))...)}, {lazy(500, 1000, a()), cat(append(letters(500), lazy(0, 500, a()))...)},
	{repeat(2, 2, none()), cat(none(), none())}, {repeat(1, -1, anyByte()), cat(anyByte(), star(anyByte()))}, {repeat(2, 3, assert(1)), cat(assert(1), assert(1), repeat(0, 1, assert(1)))}, {repeat(1, 2, set('a', 'b', 'd', 'd')), cat(set('a', 'b', 'd', 'd'), repeat(0, 1, set('a', 'b', 'd', 'd')))},

	// repetitions of KEmpty and of what becomes KEmpty
	{star(empty()), empty()}, {lazy(0, -1, empty()), empty()}, {repeat(0, 1, empty()), empty()}, {repeat(1, 1, empty()), empty()}, {repeat(1, -1, empty()), empty()}, {repeat(1000, 1000, empty()), empty()}, {repeat(1000, -1, empty()), empty()}, {repeat(2, 4, empty()), empty()}, {repeat(0, 0, empty()), empty()}, {star(star(empty())), empty()}, {star(cat(empty(), empty())), empty()}, {repeat(2, 3, never(a())), empty()}, {star(never(group(1, a()))), empty()}, {repeat(1, 2, cat(empty(), star(empty()))), empty()}, {never(never(a())), empty()},

	// repetitions of others
	{star(cat(a(), empty())), star(a())}, {star(cat(a(), cat(b(), c()))), star(cat(a(), b(), c()))}, {repeat(2, 2, cat(a(), b())), cat(a(), b(), a(), b())}, {repeat(1, 3, cat(a(), b())), cat(a(), b(), repeat(0, 2, cat(a(), b())))}, {lazy(2, -1, cat(a(), b())), cat(a(), b(), a(), b(), lazy(0, -1, cat(a(), b())))}, {alone(cat(a(), b())), cat(a(), b())}, {repeat(2, 2, cat(a(), empty())), cat(a(), a())},
	{star(alt(a(), alt(b(), c()))), star(alt(a(), b(), c()))}, {repeat(2, 2, alt(a(), b())), cat(alt(a(), b()), alt(a(), b()))}, {repeat(1, 2, alt(a(), empty())), cat(alt(a(), empty()), repeat(0, 1, alt(a(), empty())))}, {alone(alt(a(), b())), alt(a(), b())},
	{repeat(2, 2, group(1, a())), cat(group(1, a()), group(1, a()))}, {repeat(1, -1, named(1, "x", a())), cat(group(1, a()), star(group(1, a())))}, {repeat(2, 3, group(1, cat(a(), named(2, "y", b())))), cat(group(1, cat(a(), group(2, b()))), group(1, cat(a(), group(2, b()))), repeat(0, 1, group(1, cat(a(), group(2, b())))))}, {repeat(2, 2, group(1, empty())), cat(group(1, empty()), group(1, empty()))},
	{star(alone(a())), star(a())}, {star(repeat(2, 2, a())), star(cat(a(), a()))}, {repeat(2, 2, star(a())), cat(star(a()), star(a()))}, {repeat(2, 2, repeat(2, 2, a())), cat(a(), a(), a(), a())}, {repeat(1, -1, lazy(1, -1, a())), cat(a(), lazy(0, -1, a()), star(cat(a(), lazy(0, -1, a()))))}, {lazy(1, 2, repeat(1, 2, a())), cat(a(), repeat(0, 1, a()), lazy(0, 1, cat(a(), repeat(0, 1, a()))))}, {star(repeat(0, 3, a())), star(repeat(0, 3, a()))}, {never(repeat(5, 5, a())), empty()}, {repeat(0, 2, star(cat(a(), cat(b(), c())))), repeat(0, 2, star(cat(a(), b(), c())))},

	// groups that are dropped: the others keep their numbers
	{cat(never(group(1, a())), group(2, b())), group(2, b())}, {cat(group(1, a()), never(named(2, "x", group(3, b()))), group(4, c())), cat(group(1, a()), group(4, c()))}, {alt(never(named(1, "x", a())), named(2, "y", b())), alt(empty(), group(2, b()))}, {group(1, cat(never(group(2, a())), group(3, b()))), group(1, group(3, b()))},
	{cat(repeat(2, 2, group(1, a())), group(2, b())), cat(group(1, a()), group(1, a()), group(2, b()))}, {repeat(2, 2, cat(group(1, a()), group(2, b()))), cat(group(1, a()), group(2, b()), group(1, a()), group(2, b()))},

	// much at once
	{cat(named(1, "k", alt(cat(a(), cat(empty(), star(alt(b(), alt(c(), empty()))))), never(a()))), cat(lazy(2, -1, group(2, set('0', '9'))), alt(none(), alt(anyByte(), assert(api.AWord)))), repeat(0, 3, alone(one(' ')))),
		cat(group(1, alt(cat(a(), star(alt(b(), c(), empty()))), empty())), group(2, set('0', '9')), group(2, set('0', '9')), lazy(0, -1, group(2, set('0', '9'))), alt(none(), anyByte(), assert(api.AWord)), repeat(0, 3, one(' ')))},
}

// all are the trees of all tables with their cores.
func all() []pair {
	var out []pair
	for _, n := range slices.Concat(leaves, same) {
		out = append(out, pair{n, n})
	}
	return append(out, changed...)
}

func TestCore(t *testing.T) {
	for _, x := range all() {
		cored(t, x.n, x.core)
	}
}

// renumbered returns n with greater numbers of its groups.
func renumbered(n node, by int) node {
	if n.Kind == api.KGroup {
		n.Num += by
	}
	n.Subs = slices.Clone(n.Subs)
	for i, sub := range n.Subs {
		n.Subs[i] = renumbered(sub, by)
	}
	return n
}

// parts are the trees that stand one after another in a core, and choices those of which it is one.

func parts(x node) []node {
	switch x.Kind {
	case api.KEmpty:
		return nil
	case api.KCat:
		return x.Subs
	}
	return []node{x}
}

func choices(x node) []node {
	if x.Kind == api.KAlt {
		return x.Subs
	}
	return []node{x}
}

// row is the core of lists of parts, one after another.
func row(lists ...[]node) node {
	l := slices.Concat(lists...)
	switch len(l) {
	case 0:
		return empty()
	case 1:
		return l[0]
	}
	return cat(l...)
}

func TestTreesInEveryPlace(t *testing.T) {
	for _, x := range all() {
		if norm.Weight(x.n) > 1200 {
			continue // repeated it is too heavy
		}
		y, p, l, end := x.core, parts(x.core), choices(x.core), []node{c()}
		cored(t, cat(x.n, c()), row(p, end))
		cored(t, cat(c(), x.n), row(end, p))
		cored(t, cat(c(), x.n, c()), row(end, p, end))
		cored(t, cat(empty(), x.n), row(p))
		cored(t, cat(x.n, never(c()), empty()), row(p))
		cored(t, alt(x.n, c()), alt(slices.Concat(l, end)...))
		cored(t, alt(c(), x.n), alt(slices.Concat(end, l)...))
		cored(t, alt(c(), x.n, c()), alt(slices.Concat(end, l, end)...))
		cored(t, alt(empty(), x.n), alt(slices.Concat([]node{empty()}, l)...))
		cored(t, alone(x.n), y)
		cored(t, never(x.n), empty())
		cored(t, repeat(2, 2, x.n), row(p, p))
		cored(t, group(1, renumbered(x.n, 1)), group(1, renumbered(y, 1)))
		cored(t, named(1, "other", renumbered(x.n, 1)), group(1, renumbered(y, 1)))
		for _, lazy := range []bool{false, true} {
			again := func(high int) []node {
				if y.Kind == api.KEmpty {
					return nil
				}
				return []node{{Kind: 9, Max: high, Lazy: lazy, Subs: []node{y}}}
			}
			within := func(low, high int) node { return node{Kind: 9, Min: low, Max: high, Lazy: lazy, Subs: []node{x.n}} }
			cored(t, within(0, -1), row(again(-1)))
			cored(t, within(0, 1), row(again(1)))
			cored(t, within(0, 3), row(again(3)))
			cored(t, within(1, -1), row(p, again(-1)))
			cored(t, within(2, -1), row(p, p, again(-1)))
			cored(t, within(1, 2), row(p, again(1)))
			cored(t, within(1, 3), row(p, again(2)))
		}
	}
}

// Every pair of small numbers that a repetition may have, and the great ones, over trees of each kind.
func TestEveryRepetition(t *testing.T) {
	numbers := []int{0, 1, 2, 3, 4, 5, 10, 31, 99, 998, 999, 1000}
	for _, x := range []node{a(), empty(), cat(a(), b()), alt(a(), empty()), group(1, a()), star(a())} {
		for _, low := range numbers {
			for _, high := range append([]int{-1}, numbers...) {
				if high >= 0 && high < low {
					continue
				}
				for _, lazy := range []bool{false, true} {
					n := node{Kind: 9, Min: low, Max: high, Lazy: lazy, Subs: []node{x}}
					if modelWeight(n) > api.MaxProg {
						refused(t, n, api.ErrSize)
						continue
					}
					l := slices.Repeat(parts(x), low)
					if rest := max(high-low, -1); high != low && x.Kind != api.KEmpty {
						if high == -1 {
							rest = -1
						}
						l = append(l, node{Kind: 9, Max: rest, Lazy: lazy, Subs: []node{x}})
					}
					cored(t, n, row(l))
				}
			}
		}
	}
}

func TestPatterns(t *testing.T) {
	for _, x := range []struct {
		s    string
		core node
	}{
		{"", empty()}, {"a", a()}, {"a{2,4}", cat(a(), a(), repeat(0, 2, a()))}, {"(?:ab)c", cat(a(), b(), c())}, {"a(?:b|(?:c|a))", cat(a(), alt(b(), c(), a()))}, {"(?P<x>a)+?", cat(group(1, a()), lazy(0, -1, group(1, a())))},
		{"(a){0}(b)", group(2, b())}, {"(?:){5}", empty()}, {"a(?:){5}", a()}, {"(?:a*)*", star(star(a()))}, {`(\b|$)*`, star(group(1, alt(assert(api.AWord), assert(api.AEnd))))}, {"a{0}", empty()}, {"(a{0})*", star(group(1, empty()))},
	} {
		n, _, e := parse.Parse(x.s, 0)
		if e != api.OK {
			t.Fatal(x.s, int(e))
		}
		cored(t, n, x.core)
	}
}

// Slices that are empty, but not nil, are like nil.
func TestEmptySlices(t *testing.T) {
	var filled func(n node) node
	filled = func(n node) node {
		n.Subs = append([]node{}, n.Subs...)
		n.Set = append([]api.Range{}, n.Set...)
		for i := range n.Subs {
			n.Subs[i] = filled(n.Subs[i])
		}
		return n
	}
	for _, x := range all() {
		cored(t, filled(x.n), x.core)
		if w := norm.Weight(filled(x.n)); w != norm.Weight(x.n) {
			t.Errorf("Weight(%s) = %d with empty slices", cut(text(x.n)), w)
		}
		if e := norm.Check(filled(x.core)); e != api.OK {
			t.Errorf("Check(%s) = %d with empty slices", cut(text(x.core)), int(e))
		}
	}
}
