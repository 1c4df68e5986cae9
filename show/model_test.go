package show_test

import (
	"errors"
	"fmt"
	"math/rand/v2"
	"regexp"
	"regexp/syntax"
	"slices"
	"strings"
	"testing"

	"burin/api"
	"burin/show"
)

// model is the pattern of a tree, however long, by its definition.
func model(n node) string {
	switch n.Kind {
	case api.KEmpty:
		return "(?:)"
	case api.KNone:
		return `[^\x{0}-\x{10ffff}]`
	case api.KSet:
		return modelSet(n.Set)
	case api.KByte:
		return `\C`
	case api.KAssert:
		return strings.Fields(`\A \z (?m:^) (?m:$) \b \B`)[n.Num-1]
	case api.KGroup:
		return strings.Replace("(?P<"+n.Name+">", "?P<>", "", 1) + model(n.Subs[0]) + ")"
	}
	var parts []string
	for _, sub := range n.Subs {
		part := model(sub)
		wraps := map[int]string{api.KCat: "78", api.KAlt: "8", api.KRepeat: "789"}[n.Kind]
		if strings.Contains(wraps, fmt.Sprint(sub.Kind)) {
			part = "(?:" + part + ")"
		}
		parts = append(parts, part)
	}
	if n.Kind == api.KAlt {
		return strings.Join(parts, "|")
	}
	return strings.Join(parts, "") + modelTimes(n)
}

// modelSet is the pattern of a list.
func modelSet(l []api.Range) string {
	if len(l) == 1 && l[0].Lo == l[0].Hi {
		s := fmt.Sprintf(`\x{%x}`, l[0].Lo)
		if c := string(rune(l[0].Lo)); regexp.MustCompile(`\A[A-Za-z0-9]\z`).MatchString(c) {
			return c
		}
		return s
	}
	var s string
	for _, x := range l {
		s += fmt.Sprintf(`\x{%x}-\x{%x}`, x.Lo, x.Hi)
	}
	return "[" + oneNumber.ReplaceAllStringFunc(s, func(pair string) string {
		lo, hi, _ := strings.Cut(pair, "-")
		if lo == hi {
			return lo
		}
		return pair
	}) + "]"
}

// oneNumber is a range in brackets.
var oneNumber = regexp.MustCompile(`\\x\{[0-9a-f]+\}-\\x\{[0-9a-f]+\}`)

// modelTimes is what stands behind a tree that is repeated, and nothing for other trees.
func modelTimes(n node) string {
	if n.Kind != api.KRepeat {
		return ""
	}
	s := fmt.Sprintf("{%d,%d}", n.Min, n.Max)
	s = strings.Replace(s, ",-1", ",", 1)
	if n.Min == n.Max {
		s = fmt.Sprintf("{%d}", n.Min)
	}
	for long, short := range map[string]string{"{0,}": "*", "{1,}": "+", "{0,1}": "?"} {
		if s == long {
			s = short
		}
	}
	if n.Lazy {
		s += "?"
	}
	return s
}

// likeTheModel demands of Show the pattern of the model for n, or ErrLong if it is too long.
func likeTheModel(t *testing.T, n node) bool {
	t.Helper()
	s := model(n)
	fits(t, n, s)
	return len(s) <= longest
}

// number gives the groups of n their numbers, and names that they have only once. If there are too many, it repeats the
// further ones once instead.
func number(n *node, last *int) {
	if n.Kind == api.KGroup && *last == 31 {
		*n = repeat(1, 1, n.Subs[0])
	}
	if n.Kind == api.KGroup {
		*last++
		n.Num = *last
		if n.Name != "" {
			n.Name = fmt.Sprint(n.Name, *last)
		}
	}
	n.Subs = slices.Clone(n.Subs)
	for i := range n.Subs {
		number(&n.Subs[i], last)
	}
}

// numbered is n with the numbers of its groups.
func numbered(n node) node {
	last := 0
	number(&n, &last)
	return n
}

// ofSize visits all trees of that many nodes with these leaves, whose groups have no numbers yet.
func ofSize(size int, leaves []node, visit func(n node)) {
	if size == 1 {
		for _, n := range leaves {
			visit(n)
		}
		return
	}
	ofSize(size-1, leaves, func(n node) {
		visit(group(0, n))
		visit(named(0, "x", n))
		visit(star(n))
		visit(lazy(2, 3, n))
	})
	rows(2, size-1, leaves, nil, func(subs []node) {
		visit(cat(subs...))
		visit(alt(subs...))
	})
}

// rows visits all lists of at least so many trees with that many nodes altogether.
func rows(least, size int, leaves, before []node, visit func(subs []node)) {
	if size == 0 && least <= 0 {
		visit(slices.Clone(before))
	}
	for first := 1; first <= size-max(least-1, 0); first++ {
		ofSize(first, leaves, func(n node) {
			rows(least-1, size-first, leaves, append(slices.Clip(before), n), visit)
		})
	}
}

func TestSmallTreesAreThoseOfTheModel(t *testing.T) {
	for _, c := range []struct {
		size   int
		leaves []node
	}{
		{8, []node{a()}},
		{6, []node{a(), empty()}},
		{5, []node{a(), empty(), none(), set('a', 'b'), anyByte(), assert(api.ALine), one('(')}},
	} {
		for size := 1; size <= c.size; size++ {
			ofSize(size, c.leaves, func(n node) { likeTheModel(t, numbered(n)) })
		}
	}
}

// someNumber returns a number, of which many are near what matters.
func someNumber(random *rand.Rand) int {
	near := []int{0, '0', '9', 'A', 'Z', 'a', 'z', '\\', ']', '^', 0x7F, 0x100, 0xD800, 0xE000, 0x10000, top}
	r := near[random.IntN(len(near))] + random.IntN(5) - 2
	if random.IntN(4) == 0 {
		r = random.IntN(top + 1)
	}
	return min(max(r, 0), top)
}

// someSet is a random normalized list that is not empty.
func someSet(random *rand.Rand) []api.Range {
	var ends []int
	for range 2 + 2*random.IntN(4) {
		ends = append(ends, someNumber(random))
	}
	slices.Sort(ends)
	var l []api.Range
	for i := 0; i < len(ends); i += 2 {
		if len(l) > 0 && ends[i] <= l[len(l)-1].Hi+1 {
			continue
		}
		l = append(l, api.Range{Lo: ends[i], Hi: ends[i+1]})
	}
	return l
}

// someTree is a random tree of at most so many levels.
func someTree(random *rand.Rand, levels int) node {
	k := 1 + random.IntN(5)
	if levels > 1 && random.IntN(5) > 0 {
		k = 6 + random.IntN(4)
	}
	n := node{Kind: k}
	subs := 0
	switch k {
	case api.KSet:
		n.Set = someSet(random)
		if random.IntN(3) > 0 {
			r := someNumber(random)
			n.Set = of(r, r)
		}
	case api.KAssert:
		n.Num = 1 + random.IntN(6)
	case api.KGroup:
		n.Name = []string{"", "", "x", "_a", "Name_"}[random.IntN(5)]
		subs = 1
	case api.KCat, api.KAlt:
		subs = 2 + random.IntN(3)
	case api.KRepeat:
		some := []int{0, 0, 1, 1, 2, 9, 10, 99, 100, 999, 1000}
		n.Min = some[random.IntN(len(some))]
		n.Max = []int{-1, n.Min, max(n.Min, some[random.IntN(len(some))])}[random.IntN(3)]
		n.Lazy = random.IntN(2) == 0
		subs = 1
	}
	for range subs {
		n.Subs = append(n.Subs, someTree(random, levels-1))
	}
	return n
}

func TestRandomTreesAreThoseOfTheModel(t *testing.T) {
	random := rand.New(rand.NewPCG(10, 2))
	count := map[bool]int{}
	for range 40_000 {
		count[likeTheModel(t, numbered(someTree(random, 1+random.IntN(11))))]++
	}
	if count[true] < 20_000 || count[false] < 200 {
		t.Errorf("%d patterns fit, %d do not", count[true], count[false])
	}
}

// What Show prints is a pattern also for the library of Go, if that has all of it.
func TestPatternsAreThoseOfTheLibrary(t *testing.T) {
	random := rand.New(rand.NewPCG(10, 3))
	compared := 0
	for range 5_000 {
		n := someTree(random, 1+random.IntN(4))
		last := 0
		number(&n, &last)
		s, e := show.Show(n)
		if e != api.OK || strings.Contains(s, `\C`) {
			continue
		}
		r, err := regexp.Compile(s)
		if has := new(syntax.Error); errors.As(err, &has) && (has.Code == syntax.ErrInvalidRepeatSize || has.Code == syntax.ErrLarge) {
			continue // the library has limits of its own for repetitions of repetitions
		}
		if err != nil {
			t.Errorf("Show(%s) = %q: %v", cut(text(n)), cut(s), err)
			continue
		}
		compared++
		if r.NumSubexp() != last {
			t.Errorf("%q has %d groups, want %d", cut(s), r.NumSubexp(), last)
		}
	}
	if compared < 2_000 {
		t.Errorf("only %d patterns were compared", compared)
	}
}
