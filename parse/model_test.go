package parse_test

import (
	"math/rand/v2"
	"strings"
	"testing"

	"burin/api"
	"burin/bracket"
	"burin/fold"
	"burin/lex"
	"burin/parse"
)

// frame is a parenthesis that has been opened: or, at the bottom, the pattern.
type frame struct {
	num       int    // of the group, 0 if it does not capture
	name      string // of the group
	outside   int    // the flags to go back to
	sequences []node // those before the last bar
	atoms     []node // those since the last bar
	isAtom    bool   // whether the last token was one, or the end of one
}

func (f *frame) add(n node) {
	f.atoms = append(f.atoms, n)
	f.isAtom = true
}

// bar ends a sequence.
func (f *frame) bar() {
	n := empty()
	switch {
	case len(f.atoms) == 1:
		n = f.atoms[0]
	case len(f.atoms) > 1:
		n = cat(f.atoms...)
	}
	f.sequences = append(f.sequences, n)
	f.atoms, f.isAtom = nil, false
}

// tree is what the frame stands for at its end.
func (f *frame) tree() node {
	f.bar()
	n := f.sequences[0]
	if len(f.sequences) > 1 {
		n = alt(f.sequences...)
	}
	if f.num > 0 {
		n = named(f.num, f.name, n)
	}
	return n
}

// modelSet is the node of a list.
func modelSet(l []api.Range, flags int) node {
	if flags&api.FFold != 0 {
		l = fold.Close(l)
	}
	if len(l) == 0 {
		return none()
	}
	return node{Kind: api.KSet, Set: l}
}

// modelAtom is a token that is an atom by itself.
func modelAtom(x api.Token, flags int) node {
	is := func(flag int) bool { return flags&flag == flag }
	switch {
	case x.Kind == api.TRune:
		return modelSet(of(x.Num, x.Num), flags)
	case x.Kind == api.TSet:
		return modelSet(x.Set, flags)
	case x.Kind == api.TBracket:
		l, _, _ := bracket.Bracket(x.Name, flags)
		return modelSet(l, 0)
	case x.Kind == api.TAny && is(api.FDot):
		return everything()
	case x.Kind == api.TAny:
		return noLine()
	case x.Kind == api.TByte:
		return anyByte()
	case x.Kind == api.TCaret && is(api.FLines):
		return assert(api.ALine)
	case x.Kind == api.TCaret:
		return assert(api.ABegin)
	case x.Kind == api.TDollar && is(api.FLines):
		return assert(api.ALineEnd)
	case x.Kind == api.TDollar:
		return assert(api.AEnd)
	}
	return assert(x.Num)
}

// modelParse is Parse by its definition, with a list of open parentheses instead of recursion.
func modelParse(s string, flags int) (node, int, api.Code) {
	tokens, at, e := lex.Lex(s)
	if e != api.OK {
		return node{}, at, e
	}
	open := []*frame{{}}
	captured := 0
	for _, x := range tokens {
		f := open[len(open)-1]
		switch x.Kind {
		case api.TRepeat:
			if !f.isAtom {
				return node{}, x.At, api.ErrNothing
			}
			last := &f.atoms[len(f.atoms)-1]
			*last = node{Kind: api.KRepeat, Min: x.Min, Max: x.Max, Lazy: x.Lazy, Subs: []node{*last}}
			if flags&api.FSwap != 0 {
				last.Lazy = !last.Lazy
			}
			f.isAtom = false
		case api.TBar:
			f.bar()
		case api.TFlags:
			flags |= x.Min
			flags &^= x.Max
			f.isAtom = false
		case api.TOpen:
			inner := &frame{name: x.Name, outside: flags}
			if x.Num == 1 {
				captured++
				inner.num = captured
			}
			open = append(open, inner)
			flags |= x.Min
			flags &^= x.Max
		case api.TClose:
			if len(open) == 1 {
				return node{}, x.At, api.ErrGroup
			}
			open = open[:len(open)-1]
			open[len(open)-1].add(f.tree())
			flags = f.outside
		default:
			f.add(modelAtom(x, flags))
		}
	}
	if len(open) > 1 {
		return node{}, len(s), api.ErrEnd
	}
	n := open[0].tree()
	if e := modelCheck(n); e != api.OK {
		return node{}, 0, e
	}
	return n, 0, api.OK
}

// modelCheck is what may be wrong with the tree of a pattern.
func modelCheck(n node) api.Code {
	if depth(n) > 1000 {
		return api.ErrDeep
	}
	var names []string
	listNames(n, &names)
	seen := map[string]int{}
	for i, name := range names {
		if i+1 > 31 {
			return api.ErrLong
		}
		if name != "" && seen[name] > 0 {
			return api.ErrThere
		}
		seen[name]++
	}
	return api.OK
}

func depth(n node) int {
	deepest := 0
	for _, sub := range n.Subs {
		deepest = max(deepest, depth(sub))
	}
	return deepest + 1
}

// listNames adds the names of all groups in preorder.
func listNames(n node, names *[]string) {
	if n.Kind == api.KGroup {
		*names = append(*names, n.Name)
	}
	for _, sub := range n.Subs {
		listNames(sub, names)
	}
}

// likeTheModel demands of Parse what the model returns for s, and returns the model's error.
func likeTheModel(t *testing.T, s string, flags int) api.Code {
	t.Helper()
	n, at, e := modelParse(s, flags)
	if e == api.OK {
		parsed(t, s, flags, n)
	} else {
		refused(t, s, flags, at, e)
	}
	return e
}

// each visits all strings of up to that many pieces, each of them behind front.
func each(front string, pieces []string, most int, visit func(s string)) {
	visit(front)
	if most == 0 {
		return
	}
	for _, piece := range pieces {
		each(front+piece, pieces, most-1, visit)
	}
}

func TestShortPatternsAreThoseOfTheModel(t *testing.T) {
	for _, c := range []struct {
		pieces []string
		most   int
	}{
		{[]string{"a", "(", ")", "|", "*"}, 7},
		{[]string{"k", "(?:", "(", ")", "|", "?", "{2}"}, 5},
		{[]string{"s", "(?i)", "(?-i)", "(?i:", "(", ")", "|", "*"}, 5},
		{[]string{".", "^", "$", "(?ms)", "(?-s:", "(?s-m:", ")", "|"}, 5},
		{[]string{"a", "(?U)", "(?-U)", "(?U:", "(?:", ")", "*", "??"}, 5},
		{[]string{"(?P<a>", "(?<b>", "(", ")", "a", "|"}, 6},
		{[]string{`\Q`, `\E`, "a", "*", "(", ")"}, 6},
		{[]string{"[^k]", `\W`, `\P{Any}`, "(?i)", "(?-i:", ")", "+"}, 5},
	} {
		flags := 0
		each("", c.pieces, c.most, func(s string) {
			likeTheModel(t, s, flags%16)
			flags += 5 // which is each set of flags after some steps
		})
	}
}

// parts are what patterns are made of, and what spoils them.
var parts = []string{
	"a", "k", "S", "1", "\n", "\u00E9", "\u03C3", "\u20AC", "\U0001F600", ".", "^", "$", `\C`, `\A`, `\z`, `\b`, `\B`, `\d`, `\W`, `\w`, `\pL`, `\P{Greek}`, `\P{Any}`, `\n`, `\x{212A}`, `\.`,
	"[a-z]", "[^k]", "[]]", "[[:upper:]]", `[^\d\D]`, `[\x{0}-\x{10FFFF}]`, `\Qa*\E`, `\Q(\E`, `\Q\E`, "]", "}", "{",
	"|", "|", "|", "(", "(", "(?:", "(?:", "(?P<x>", "(?<y>", "(?<x>", ")", ")", ")", ")", ")",
	"*", "+", "?", "*?", "+?", "??", "{2}", "{2,}", "{0,3}?", "{0}", "{1,1}",
	"(?i)", "(?m)", "(?s)", "(?U)", "(?-i)", "(?-U)", "(?imsU)", "(?-imsU)", "(?i-s)", "(?i:", "(?-i:", "(?U:", "(?s-U:", "(?m-i:", "(?-ms:",
}

// spoilers are what is no part of any pattern.
var spoilers = []string{"\xFF", "[", "(?", `\`, `\q`, "{2,1}", "[b-a]", "(?x)", `\pZ`, "**", "(*", "|*", "(?i)*", "))"}

// someParts is a random pattern, which is mostly one with matching parentheses.
func someParts(random *rand.Rand) string {
	var s string
	for range 1 + random.IntN(14) {
		s += parts[random.IntN(len(parts))]
	}
	if random.IntN(40) == 0 {
		s += spoilers[random.IntN(len(spoilers))]
	}
	if random.IntN(3) == 0 {
		return s
	}
	// Up to a first error, most likely, it may be mended with parentheses and atoms.
	for range 20 {
		_, at, e := parse.Parse(s, 0)
		switch e {
		case api.ErrEnd:
			s += ")"
		case api.ErrNothing:
			s = s[:at] + "b" + s[at:]
		case api.ErrGroup:
			s = s[:at] + `\` + s[at:]
		default:
			return s
		}
	}
	return s
}

func TestPatternsOfPartsAreThoseOfTheModel(t *testing.T) {
	random := rand.New(rand.NewPCG(9, 1))
	good := 0
	const times = 30_000
	for range times {
		if likeTheModel(t, someParts(random), random.IntN(16)) == api.OK {
			good++
		}
	}
	if good < times/2 || good > times*9/10 {
		t.Errorf("%d of %d patterns were accepted", good, times)
	}
	for _, x := range append(parts, spoilers...) {
		for _, y := range append(parts, spoilers...) {
			for _, z := range []string{"", "?", ")", "a"} {
				likeTheModel(t, x+y+z, random.IntN(16))
				likeTheModel(t, "("+x+y+")"+z, random.IntN(16))
			}
		}
	}
}

// longOnes have in them all that a pattern may have.
var longOnes = []string{
	"a\u00E9.^$|()*(b+?){2}c{3,}?|(?:(?i)k(?s-m:.(?P<x>^*(?<y_1>[^]a-\u00E9\\d[:alpha:]]*?))\\Q\\(\u20AC\\E\\d\\P{^Lu}\\pL+\\x41)|\\x{1F600}\\n\\.\\A\\z\\b\\B\\C]}{)",
	"(?Ui)s*(?:a|(?-U)b??|(?ms:^.$)+)(\\P{Any}|[^\\w\\W]{0}|())(?-i:S(?U:k?)k?)|\\Qa*|\\E{4}(?m)^|(?P<long_1>$)",
}

func TestPatternsThatAreSpoiledAnywhere(t *testing.T) {
	for _, s := range longOnes {
		for flags := range 16 {
			if _, _, e := parse.Parse(s, flags); e != api.OK {
				t.Errorf("Parse(%q, %d): %d", s, flags, int(e))
			}
			likeTheModel(t, s, flags)
		}
		for n := range len(s) + 1 {
			likeTheModel(t, s[:n], n%16)
			likeTheModel(t, s[n:], n%16)
			for i, c := range append(strings.Split("()|*?:{}[]\\$<-iPE1\xFF", ""), "(?i)", "(?:", "**", "a)", "|*", "()") {
				likeTheModel(t, s[:n]+c+s[n:], (n+i)%16)
				likeTheModel(t, s[:n]+c+s[min(n+1, len(s)):], (n+i)%16)
			}
		}
	}
}

func TestAnyBytesAreThoseOfTheModel(t *testing.T) {
	random := rand.New(rand.NewPCG(9, 2))
	const frequent = "()()||**??:iU-"
	for range 100_000 {
		b := make([]byte, random.IntN(24))
		for i := range b {
			b[i] = byte(random.IntN(256))
			if random.IntN(8) > 0 {
				b[i] = frequent[random.IntN(len(frequent))]
			}
		}
		likeTheModel(t, string(b), int(random.Uint64()))
	}
}
