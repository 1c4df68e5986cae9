package sem_test

import (
	"math/rand/v2"
	"slices"
	"strings"
	"testing"
	"unicode/utf8"

	"burin/api"
	"burin/norm"
	"burin/sem"
)

// way is a match of the model: where it ends, and for each slot one more than its value, or 0 if it assigns none.
type way struct {
	end   int
	slots [api.MaxSlots]int8 // texts are short here
}

// then is the way x and, from its end, the way y.
func (x way) then(y way) way {
	x.end = y.end
	for slot, v := range y.slots {
		if v > 0 {
			x.slots[slot] = v
		}
	}
	return x
}

// place is a node, an offset, and the remaining count of a repetition, or whole.
type place struct {
	n        *node
	at, left int
}

// whole is instead of a count for the matches of a node altogether.
const whole = -2

// model is the definition, word by word. What was found is kept, so that counts may be great.
type model struct {
	text  string
	found map[place][]way
}

// sift keeps only the first way with each end.
func sift(l []way) []way {
	var out []way
	ends := map[int]bool{}
	for _, x := range l {
		if !ends[x.end] {
			ends[x.end] = true
			out = append(out, x)
		}
	}
	return out
}

// ways are the matches of n from an offset.
func (m *model) ways(n *node, at int) []way {
	if n.Kind == api.KRepeat && n.Min == 0 {
		return m.repeat(n, at, n.Max)
	}
	if l, ok := m.found[place{n, at, whole}]; ok {
		return l
	}
	l := sift(m.defined(n, at))
	m.found[place{n, at, whole}] = l
	return l
}

// defined is what the document says of each kind but KRepeat.
func (m *model) defined(n *node, at int) []way {
	here := []way{{end: at}}
	switch n.Kind {
	case api.KEmpty:
		return here
	case api.KNone:
		return nil
	case api.KSet:
		r, size := utf8.DecodeRuneInString(m.text[at:])
		valid := size > 1 || size == 1 && r < utf8.RuneSelf
		if valid && slices.ContainsFunc(n.Set, func(x api.Range) bool { return x.Lo <= int(r) && int(r) <= x.Hi }) {
			return []way{{end: at + size}}
		}
		return nil
	case api.KByte:
		if at == len(m.text) {
			return nil
		}
		return []way{{end: at + 1}}
	case api.KAssert:
		if !holds(n.Num, m.text, at) {
			return nil
		}
		return here
	case api.KGroup:
		var out []way
		for _, x := range m.ways(&n.Subs[0], at) {
			begin := way{end: at}
			begin.slots[2*n.Num] = int8(at + 1)
			x = begin.then(x)
			x.slots[2*n.Num+1] = int8(x.end + 1)
			out = append(out, x)
		}
		return out
	case api.KCat:
		for i := range n.Subs {
			here = after(here, func(at int) []way { return m.ways(&n.Subs[i], at) })
		}
		return here
	case api.KAlt:
		var out []way
		for i := range n.Subs {
			out = append(out, m.ways(&n.Subs[i], at)...)
		}
		return out
	}
	// A KRepeat of a tree, which must have so many rounds first.
	for range n.Min {
		here = after(here, func(at int) []way { return m.ways(&n.Subs[0], at) })
	}
	return after(here, func(at int) []way { return m.repeat(n, at, rest(n)) })
}

// rest is the remaining count of a KRepeat of a tree behind the rounds that it must have.
func rest(n *node) int {
	if n.Max == -1 {
		return -1
	}
	return n.Max - n.Min
}

// after are the ways of a list, each followed by each of those from its end.
func after(l []way, next func(at int) []way) []way {
	var out []way
	for _, x := range l {
		for _, y := range next(x.end) {
			out = append(out, x.then(y))
		}
	}
	return sift(out)
}

// repeat is what the document says of KRepeat.
func (m *model) repeat(n *node, at, left int) []way {
	if l, ok := m.found[place{n, at, left}]; ok {
		return l
	}
	var l []way
	if n.Lazy {
		l = append(l, way{end: at})
	}
	if left != 0 {
		for _, x := range m.ways(&n.Subs[0], at) {
			if left == -1 && x.end <= at {
				continue
			}
			for _, y := range m.repeat(n, x.end, max(left-1, -1)) {
				l = append(l, x.then(y))
			}
		}
	}
	if !n.Lazy {
		l = append(l, way{end: at})
	}
	l = sift(l)
	m.found[place{n, at, left}] = l
	return l
}

// holds says whether an assertion holds at an offset of the text.
func holds(num int, text string, at int) bool {
	word := func(at int) bool {
		return at >= 0 && at < len(text) && strings.IndexByte("0123456789ABCDEFGHIJKLMNOPQRSTUVWXYZ_abcdefghijklmnopqrstuvwxyz", text[at]) >= 0
	}
	switch num {
	case api.ABegin:
		return at == 0
	case api.AEnd:
		return at == len(text)
	case api.ALine:
		return at == 0 || text[at-1] == '\n'
	case api.ALineEnd:
		return at == len(text) || text[at] == '\n'
	case api.AWord:
		return word(at-1) != word(at)
	}
	return word(at-1) == word(at)
}

// newModel is the model of a text.
func newModel(text string) *model { return &model{text, map[place][]way{}} }

// ends are the ends of ways.
func ends(l []way) []int {
	var out []int
	for _, x := range l {
		out = append(out, x.end)
	}
	return out
}

// search is what a search of n has to find.
func (m *model) search(n *node, x api.Ask) api.Found {
	last := len(x.Text)
	if x.Anchored {
		last = x.From
	}
	for at := x.From; at <= last; at++ {
		l := m.ways(n, at)
		if len(l) == 0 {
			continue
		}
		chosen := l[0]
		if x.Longest {
			chosen = slices.MaxFunc(l, func(x, y way) int { return x.end - y.end })
		}
		slots := make([]int, norm.Slots(*n))
		for slot := range slots {
			slots[slot] = int(chosen.slots[slot]) - 1
		}
		slots[0], slots[1] = at, chosen.end
		return api.Found{Ok: true, Slots: slots}
	}
	return api.Found{}
}

// asks are all searches in a text from an offset.
func asks(text string, from int) []api.Ask {
	return []api.Ask{{Text: text, From: from}, {Text: text, From: from, Longest: true}, {Text: text, From: from, Anchored: true}, {Text: text, From: from, Anchored: true, Longest: true}}
}

// likeTheModel demands of Ends and Match what the model says for n, a core, and for each offset of the text.
func likeTheModel(t *testing.T, n node, text string) {
	t.Helper()
	m := newModel(text)
	for at := range len(text) + 1 {
		want := ends(m.ways(&n, at))
		if got, e := sem.Ends(n, text, at); !slices.Equal(got, want) || e != api.OK {
			t.Fatalf("Ends(%s, %q, %d) = %v, %d, want %v, OK", spell(n), text, at, got, int(e), want)
		}
		for _, x := range asks(text, at) {
			wanted := m.search(&n, x)
			if got, e := sem.Match(n, x); !same(got, wanted) || e != api.OK {
				t.Fatalf("Match(%s, %+v) = %v, %d, want %v, OK", spell(n), x, got, int(e), wanted)
			}
		}
	}
}

// same reports whether two searches found the same.
func same(x, y api.Found) bool { return x.Ok == y.Ok && slices.Equal(x.Slots, y.Slots) }

// ofSize visits all cores of that many nodes with these leaves.
func ofSize(size int, leaves []node, visit func(n node)) {
	if size == 1 {
		for _, n := range leaves {
			visit(n)
		}
		return
	}
	ofSize(size-1, leaves, func(n node) {
		visit(group(1, n))
		visit(group(2, n))
		if n.Kind != api.KEmpty {
			visit(star(n))
			visit(lazy(-1, n))
			visit(repeat(2, n))
			visit(lazy(2, n))
		}
	})
	rows(2, size-1, leaves, nil, func(subs []node) {
		if !has(subs, api.KCat, api.KEmpty) {
			visit(cat(subs...))
		}
		if !has(subs, api.KAlt) {
			visit(alt(subs...))
		}
	})
}

// has reports whether any node of a list is of one of these kinds.
func has(l []node, kinds ...int) bool {
	return slices.ContainsFunc(l, func(n node) bool { return slices.Contains(kinds, n.Kind) })
}

// rows visits all lists of at least so many cores with that many nodes altogether.
func rows(least, size int, leaves, before []node, visit func(subs []node)) {
	if size == 0 && least <= 0 {
		visit(slices.Clone(before))
	}
	for first := 1; first <= size-max(least-1, 0); first++ {
		ofSize(first, leaves, func(n node) {
			rows(least-1, size-first, leaves, append(slices.Clip(before), n), visit)
		})
	}
}

func TestSmallCoresAreThoseOfTheModel(t *testing.T) {
	t.Parallel()
	for _, c := range []struct {
		size   int
		leaves []node
		texts  []string
	}{
		{4, []node{a(), empty()}, texts("ab", 3)},
		{4, []node{a(), assert(api.AWord)}, texts("a-", 2)},
		{5, []node{a(), empty()}, []string{"aab"}},
		{3, []node{a(), b(), empty(), none(), anyByte(), one(0xE9), set('a', 'b'), assert(1), assert(2), assert(3), assert(4), assert(5), assert(6)}, append(texts("ab\n", 2), "\u00e9a", "a\u00e9", "\xC3\u00e9\xA9", "ba\nb")},
	} {
		for size := 1; size <= c.size; size++ {
			ofSize(size, c.leaves, func(n node) {
				if e := norm.Check(n); e != api.OK {
					t.Fatalf("%s is no core: %d", spell(n), int(e))
				}
				for _, s := range c.texts {
					likeTheModel(t, n, s)
				}
			})
		}
	}
}

// style says of which kinds a random core is.
type style struct {
	leaves []node
	counts []int
	groups int
	texts  []string
}

// someCore is a random core of at most so many levels.
func someCore(random *rand.Rand, levels int, s style) node {
	kinds := []int{3, 3, 6, 7, 7, 7, 8, 8, 9, 9, 9, 9}
	k := kinds[random.IntN(len(kinds))]
	if levels == 1 || k == api.KSet {
		return s.leaves[random.IntN(len(s.leaves))]
	}
	var subs []node
	for many := map[int]int{7: 2 + random.IntN(3), 8: 2 + random.IntN(3)}[k]; len(subs) < max(many, 1); {
		subs = append(subs, someCore(random, levels-1, s))
	}
	n := node{Kind: k, Subs: subs}
	switch {
	case k == api.KGroup:
		n.Num = 1 + random.IntN(s.groups)
	case k == api.KRepeat:
		n.Max = s.counts[random.IntN(len(s.counts))]
		n.Lazy = random.IntN(2) == 0
	}
	if e := norm.Check(n); e != api.OK {
		return someCore(random, levels, s)
	}
	return n
}

// styles are those of the random cores.
var styles = []style{
	{[]node{a(), b(), empty(), set('a', 'b')}, []int{-1, -1, 1, 2, 3}, 3, texts("ab", 4)},
	{[]node{a(), a(), b(), empty(), assert(api.AWord), assert(api.ANoWord), assert(api.AEnd)}, []int{-1, 1, 2, 5}, 4, texts("ab ", 3)},
	{[]node{a(), anyByte(), none(), empty(), set('a', 0xE9), one(0x20AC), one(0x1F600), set(0, api.MaxRune)}, []int{-1, 1, 2, 4}, 31, []string{"a\u00e9a", "\u20aca\u20ac", "\U0001F600a", "\xC3\xA9\xA9\xC3", "\xE2\x82a", "\xF0\x9F\x98\x80\x80", "\xED\xA0\x80"}},
	{[]node{a(), b(), one('\n'), assert(api.ALine), assert(api.ALineEnd), assert(api.ABegin), empty()}, []int{-1, 1, 2, 3}, 2, append(texts("a\n", 4), "a\nb\n\nb")},
	{[]node{a(), a(), b(), empty(), alt(a(), cat(a(), a()))}, []int{-1, 3, 4, 5, 6, 7, 8, 9, 10}, 2, []string{"aaaa", "aaba", "baaab"}},
	{[]node{a(), a(), b(), empty(), group(1, empty())}, []int{-1, 2, 100, 999, 1000}, 2, []string{"", "a", "aa", "aab", "baa"}},
}

func TestRandomCoresAreThoseOfTheModel(t *testing.T) {
	t.Parallel()
	for i, s := range styles {
		random := rand.New(rand.NewPCG(13, uint64(i)))
		for range 3_000 {
			n := someCore(random, 2+random.IntN(5), s)
			likeTheModel(t, n, s.texts[random.IntN(len(s.texts))])
		}
	}
}
