package parse_test

import (
	"math/rand/v2"
	"slices"
	"strings"
	"testing"

	"burin/api"
	"burin/lex"
	"burin/parse"
)

// place is where something may stand in a pattern, between parentheses that do not capture.
type place struct {
	front, back string
	sets        int // the flags that front sets for it
	clears      int // and those that it clears
	before      int // the groups that front opens
	around      func(n node, flags, captured int) node
}

// on is a, if a flag is set, and otherwise b.
func on(flags, flag int, a, b node) node {
	if flags&flag != 0 {
		return a
	}
	return b
}

// letterK is what k stands for with these flags.
func letterK(flags int) node { return on(flags, api.FFold, letter('k'), one('k')) }

// places are places with their surroundings: n is the tree of what stands there, flags are those of the whole pattern
// and captured is how many groups have been opened ahead of back.
var places = []place{
	{"", "", 0, 0, 0, func(n node, flags, captured int) node { return n }},
	{"k", "", 0, 0, 0, func(n node, flags, captured int) node { return cat(letterK(flags), n) }},
	{"", "k", 0, 0, 0, func(n node, flags, captured int) node { return cat(n, letterK(flags)) }},
	{"", "*", 0, 0, 0, func(n node, flags, captured int) node { return on(flags, api.FSwap, lazy(0, -1, n), star(n)) }},
	{"", "{2,3}?|k", 0, 0, 0, func(n node, flags, captured int) node {
		return alt(on(flags, api.FSwap, repeat(2, 3, n), lazy(2, 3, n)), letterK(flags))
	}},
	{"|", "|.", 0, 0, 0, func(n node, flags, captured int) node {
		return alt(empty(), n, on(flags, api.FDot, everything(), noLine()))
	}},
	{"(", ")(k)", 0, 0, 1, func(n node, flags, captured int) node {
		return cat(group(1, n), group(captured+1, letterK(flags)))
	}},
	{"(?P<before>())k|", "(?<after>^)", 0, 0, 2, func(n node, flags, captured int) node {
		begin := on(flags, api.FLines, assert(3), assert(1))
		return alt(cat(named(1, "before", group(2, empty())), letterK(flags)), cat(n, named(captured+1, "after", begin)))
	}},
	{"(?i)", "k", api.FFold, 0, 0, func(n node, flags, captured int) node { return cat(n, letter('k')) }},
	{"(?-imsU)k*", "k*", 0, 15, 0, func(n node, flags, captured int) node { return cat(star(one('k')), n, star(one('k'))) }},
	{"(?imsU:k*", ")k", 15, 0, 0, func(n node, flags, captured int) node {
		return cat(cat(lazy(0, -1, letter('k')), n), letterK(flags))
	}},
	{"(?:(?mU-is)k|", "$+)$", api.FLines | api.FSwap, api.FFold | api.FDot, 0, func(n node, flags, captured int) node {
		end := on(flags, api.FLines, assert(4), assert(2))
		return cat(alt(one('k'), cat(n, lazy(1, -1, assert(4)))), end)
	}},
	{"(?s-i:k)", "k", 0, 0, 0, func(n node, flags, captured int) node { return cat(one('k'), n, letterK(flags)) }},
	{"((?s-i)k)", "|k", 0, 0, 1, func(n node, flags, captured int) node {
		return alt(cat(group(1, one('k')), n), letterK(flags))
	}},
	{`\Q(?i)(\E`, `\Q)*\E`, 0, 0, 0, func(n node, flags, captured int) node {
		i := on(flags, api.FFold, letter('i'), one('i'))
		return cat(one('('), one('?'), i, one(')'), one('('), n, one(')'), one('*'))
	}},
	{`\(?[(]`, `\)[)]`, 0, 0, 0, func(n node, flags, captured int) node {
		return cat(on(flags, api.FSwap, lazy(0, 1, one('(')), repeat(0, 1, one('('))), one('('), n, one(')'), one(')'))
	}},
}

// renumbered returns n with greater numbers of its groups.
func renumbered(n node, by int) node {
	if n.Kind == api.KGroup {
		n.Num += by
	}
	n.Subs = slices.Clone(n.Subs)
	for i, sub := range n.Subs {
		n.Subs[i] = renumbered(sub, by)
	}
	return n
}

// countGroups returns how many groups n has.
func countGroups(n node) int {
	var names []string
	listNames(n, &names)
	return len(names)
}

// isComplete reports whether s may be followed by a parenthesis: no quotation is open at its end.
func isComplete(s string) bool {
	l, _, e := lex.Lex(s + "|")
	return e == api.OK && len(l) > 0 && l[len(l)-1].Kind == api.TBar
}

// independent demands of all places that s has the tree, or the first error, that it has alone.
func independent(t *testing.T, s string, flags int) {
	t.Helper()
	if !isComplete(s) {
		return
	}
	for _, p := range places {
		inside := p.front + "(?:"
		n, at, e := parse.Parse(s, (flags|p.sets)&^p.clears)
		captured := p.before + countGroups(n)
		switch {
		case e == api.OK && captured < 31: // or there would be too many
			parsed(t, inside+s+")"+p.back, flags, p.around(renumbered(n, p.before), flags, captured))
		case e == api.ErrThere:
			refused(t, inside+s+")"+p.back, flags, 0, e)
		case e == api.ErrNothing:
			refused(t, inside+s+")"+p.back, flags, len(inside)+at, e)
		case e == api.ErrEnd: // the parenthesis that follows ends another one
			refused(t, inside+s, flags, len(inside)+at, e)
		}
	}
}

// begun demands that flags at the beginning of s have the same effect as those passed to Parse.
func begun(t *testing.T, s string, flags int) {
	t.Helper()
	n, at, e := parse.Parse(s, flags)
	if e == api.ErrLong && at == 0 && len(s) > longest {
		return
	}
	for _, given := range []int{0, flags, 15, 15 &^ flags, 5} {
		for _, c := range [][2]int{{flags, 15 &^ flags}, {flags &^ given, given &^ flags}, {flags, given &^ flags}} {
			if c == [2]int{} {
				continue
			}
			front := "(?" + change(c[0], c[1]) + ")"
			switch {
			case e == api.OK:
				parsed(t, front+s, given, n)
			case at == 0 && isOfCheck(e):
				refused(t, front+s, given, 0, e)
			default:
				refused(t, front+s, given, len(front)+at, e)
			}
			if e == api.OK && isComplete(s) {
				parsed(t, strings.TrimSuffix(front, ")")+":"+s+")", given, n)
			}
		}
	}
}

// isOfCheck reports whether an error at 0 is one of the tree.
func isOfCheck(e api.Code) bool { return e == api.ErrDeep || e == api.ErrLong || e == api.ErrThere }

// known are patterns of the tables of the tests, and others.
func known() []string {
	out := slices.Concat(longOnes, parts, spoilers)
	for s := range shapes {
		out = append(out, s)
	}
	for s := range refusals {
		out = append(out, s)
	}
	out = append(out, groups(28), groups(31), groups(32), "(?P<x>)"+groups(31), strings.Repeat("(a*", 20)+strings.Repeat(")*?", 20))
	slices.Sort(out)
	return out
}

func TestWhatStandsInParenthesesIsIndependent(t *testing.T) {
	for i, s := range known() {
		independent(t, s, 0)
		independent(t, s, i%16)
	}
	random := rand.New(rand.NewPCG(9, 3))
	for range 1_000 {
		independent(t, someParts(random), random.IntN(16))
	}
}

func TestFlagsAtTheBeginning(t *testing.T) {
	for i, s := range known() {
		begun(t, s, 0)
		begun(t, s, 15)
		begun(t, s, i%16)
	}
	random := rand.New(rand.NewPCG(9, 4))
	for range 1_000 {
		begun(t, someParts(random), random.IntN(16))
	}
	for _, f := range atoms {
		for flags := range 16 {
			begun(t, f.source, flags)
		}
	}
}
