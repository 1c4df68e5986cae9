package parse_test

import (
	"math"
	"testing"

	"burin/api"
)

// form is an atom: its source, and its tree without flags and with the one flag that makes a difference, if one does.
type form struct {
	source string
	plain  node
	flag   int
	other  node
}

func (f form) with(flags int) node {
	if flags&f.flag != 0 {
		return f.other
	}
	return f.plain
}

// same is an atom on which no flag has an influence.
func same(source string, n node) form { return form{source: source, plain: n} }

// folding is an atom that is another set if case is ignored.
func folding(source string, plain, folded node) form { return form{source, plain, api.FFold, folded} }

// atoms are all kinds of atoms but groups, with what they stand for.
var atoms = []form{
	// TRune
	folding("a", one('a'), letter('a')), folding("Z", one('Z'), letter('z')), folding("k", one('k'), letter('k')), folding("K", one('K'), letter('k')), folding("\u212A", one(0x212A), letter('k')), folding("s", one('s'), letter('s')), folding("\u017F", one(0x17F), letter('s')),
	folding("\u00E9", one(0xE9), set(0xC9, 0xC9, 0xE9, 0xE9)), folding("\u00C5", one(0xC5), set(0xC5, 0xC5, 0xE5, 0xE5, 0x212B, 0x212B)), folding("\u00FF", one(0xFF), set(0xFF, 0xFF, 0x178, 0x178)), folding("\u00B5", one(0xB5), set(0xB5, 0xB5, 0x39C, 0x39C, 0x3BC, 0x3BC)), folding("\u03A3", one(0x3A3), set(0x3A3, 0x3A3, 0x3C2, 0x3C3)), folding("\u03A9", one(0x3A9), set(0x3A9, 0x3A9, 0x3C9, 0x3C9, 0x2126, 0x2126)), folding("\u0451", one(0x451), set(0x401, 0x401, 0x451, 0x451)), folding("\u0416", one(0x416), set(0x416, 0x416, 0x436, 0x436)),
	same("1", one('1')), same(" ", one(' ')), same("\n", one('\n')), same("\x00", one(0)), same("-", one('-')), same("]", one(']')), same("}", one('}')), same("{", one('{')), same("@", one('@')), same("\u00D7", one(0xD7)), same("\u00F7", one(0xF7)), same("\u00DF", one(0xDF)), same("\u0100", one(0x100)), same("\u20AC", one(0x20AC)), same("\uFFFD", one(0xFFFD)), same("\U0001F600", one(0x1F600)), same("\U0010FFFF", one(top)), same("\U00010428", one(0x10428)),
	same(`\n`, one('\n')), same(`\.`, one('.')), same(`\\`, one('\\')), same(`\*`, one('*')), same(`\(`, one('(')), same(`\x00`, one(0)), same(`\x{10FFFF}`, one(top)), same(`\x{D800}`, one(0xD800)), same(`\x{DFFF}`, one(0xDFFF)), folding(`\x6B`, one('k'), letter('k')), folding(`\x{53}`, one('S'), letter('s')), folding(`\x{3c2}`, one(0x3C2), set(0x3A3, 0x3A3, 0x3C2, 0x3C3)),
	same(`\Q.\E`, one('.')), same(`\Q^\E`, one('^')), same(`\Q$\E`, one('$')), same(`\Q\\E`, one('\\')), same(`\Q|\E`, one('|')), folding(`\Qa\E`, one('a'), letter('a')), folding(`\Q\Ek\Q\E`, one('k'), letter('k')),

	// TSet
	same(`\d`, set('0', '9')), same(`\D`, set(0, '/', ':', top)), same(`\s`, set(9, 10, 12, 13, ' ', ' ')), same(`\S`, set(0, 8, 11, 11, 14, 31, '!', top)),
	folding(`\w`, set('0', '9', 'A', 'Z', '_', '_', 'a', 'z'), set('0', '9', 'A', 'Z', '_', '_', 'a', 'z', 0x17F, 0x17F, 0x212A, 0x212A)),
	folding(`\W`, set(0, '/', ':', '@', '[', '^', '`', '`', '{', top), set(0, '/', ':', '@', 'K', 'K', 'S', 'S', '[', '^', '`', '`', 'k', 'k', 's', 's', '{', top)),
	same(`\p{Nd}`, set('0', '9', 0x660, 0x669, 0x6F0, 0x6F9, 0x966, 0x96F)), same(`\p{Cyrillic}`, set(0x400, 0x484, 0x487, 0x52F)), same(`\P{Cyrillic}`, set(0, 0x3FF, 0x485, 0x486, 0x530, top)), same(`\p{Any}`, everything()), same(`\P{Any}`, none()), same(`\P{^Any}`, everything()), same(`\p{^Any}`, none()),
	folding(`\p{Lu}`, set('A', 'Z', 0xC0, 0xD6, 0xD8, 0xDE, 0x178, 0x178, 0x391, 0x3A1, 0x3A3, 0x3AB, 0x400, 0x42F), set('A', 'Z', 'a', 'z', 0xB5, 0xB5, 0xC0, 0xD6, 0xD8, 0xDE, 0xE0, 0xF6, 0xF8, 0xFF, 0x178, 0x178, 0x17F, 0x17F, 0x391, 0x3A1, 0x3A3, 0x3AB, 0x3B1, 0x3CB, 0x400, 0x45F, 0x2126, 0x2126, 0x212A, 0x212B)),

	// TAny, TByte, TAssert, TCaret and TDollar
	{".", noLine(), api.FDot, everything()}, same(`\C`, anyByte()), same(`\A`, assert(1)), same(`\z`, assert(2)), same(`\b`, assert(5)), same(`\B`, assert(6)), {"^", assert(1), api.FLines, assert(3)}, {"$", assert(2), api.FLines, assert(4)},

	// TBracket: with FFold the complement is that of what is folded
	folding("[a]", one('a'), letter('a')), folding("[^a]", set(0, '`', 'b', top), set(0, '@', 'B', '`', 'b', top)), folding("[a-cx]", set('a', 'c', 'x', 'x'), set('A', 'C', 'X', 'X', 'a', 'c', 'x', 'x')), folding("[k]", one('k'), letter('k')), folding("[^k]", set(0, 'j', 'l', top), set(0, 'J', 'L', 'j', 'l', 0x2129, 0x212B, top)),
	folding("[[:upper:]]", set('A', 'Z'), set('A', 'Z', 'a', 'z', 0x17F, 0x17F, 0x212A, 0x212A)), folding("[[:^lower:]]", set(0, '`', '{', top), everything()), folding(`[^\w]`, set(0, '/', ':', '@', '[', '^', '`', '`', '{', top), set(0, '/', ':', '@', '[', '^', '`', '`', '{', 0x17E, 0x180, 0x2129, 0x212B, top)),
	same("[0-9]", set('0', '9')), same("[]]", one(']')), same("[^]]", set(0, '\\', '^', top)), same("[.]", one('.')), same("[$^]", set('$', '$', '^', '^')), same("[|()*]", set('(', '*', '|', '|')), same("[?]", one('?')), same(`[\n]`, one('\n')), same(`[^\n]`, noLine()), same(`[\d\D]`, everything()), same(`[^\d\D]`, none()),
}

// letters are the letters of some flags.
func letters(flags int) string {
	var out string
	for _, x := range []struct {
		flag   int
		letter string
	}{{api.FFold, "i"}, {api.FLines, "m"}, {api.FDot, "s"}, {api.FSwap, "U"}} {
		if flags&x.flag != 0 {
			out += x.letter
		}
	}
	return out
}

// change are the letters between (? and the end of flags, by which some flags are set and others are cleared.
func change(sets, clears int) string {
	if clears == 0 {
		return letters(sets)
	}
	return letters(sets) + "-" + letters(clears)
}

func TestAtomsWithEachSetOfFlags(t *testing.T) {
	for _, f := range atoms {
		for flags := range 16 {
			n := f.with(flags)
			parsed(t, f.source, flags, n)
			parsed(t, "(?"+change(flags, 15&^flags)+")"+f.source, 0, n)
			parsed(t, "(?"+change(flags, 15&^flags)+":"+f.source+")", 15, n)
			parsed(t, "("+f.source+")", flags, group(1, n))
			parsed(t, "(?P<x>"+f.source+")", flags, named(1, "x", n))
			parsed(t, f.source+"|"+f.source+f.source, flags, alt(n, cat(n, n)))
			for other := range 16 {
				parsed(t, f.source+"(?"+change(other, 15&^other)+")"+f.source, flags, cat(n, f.with(other)))
				parsed(t, "(?"+change(other, 15&^other)+":"+f.source+")"+f.source, flags, cat(f.with(other), n))
			}
		}
	}
}

// repetitions are repetitions without a ? at the end, and their bounds.
var repetitions = map[string][2]int{
	"*": {0, -1}, "+": {1, -1}, "?": {0, 1}, "{0}": {0, 0}, "{1}": {1, 1}, "{12}": {12, 12}, "{1000}": {1000, 1000}, "{0,}": {0, -1}, "{1,}": {1, -1}, "{12,}": {12, -1}, "{1000,}": {1000, -1}, "{0,1}": {0, 1}, "{0,0}": {0, 0}, "{3,7}": {3, 7}, "{007,0012}": {7, 12}, "{1000,1000}": {1000, 1000},
}

func TestRepetitionsOfEachKindOfAtom(t *testing.T) {
	kinds := append([]form{
		same("(?:)", empty()), folding("(?:a)", one('a'), letter('a')), folding("(a)", group(1, one('a')), group(1, letter('a'))), folding("(?P<x>k|1)", named(1, "x", alt(one('k'), one('1'))), named(1, "x", alt(letter('k'), one('1')))),
		same("(?-i:ab)", cat(one('a'), one('b'))), same("(?:(?-i)a|b)", alt(one('a'), one('b'))), same("()", group(1, empty())), same("(?:1|)", alt(one('1'), empty())), same("(?:|)", alt(empty(), empty())),
	}, atoms...)
	for _, f := range kinds {
		for r, b := range repetitions {
			for flags := range 16 {
				n := f.with(flags)
				much, little := repeat(b[0], b[1], n), lazy(b[0], b[1], n)
				if flags&api.FSwap != 0 {
					much, little = little, much
				}
				parsed(t, f.source+r, flags, much)
				parsed(t, f.source+r+"?", flags, little)
				parsed(t, "1"+f.source+r+"1", flags, cat(one('1'), much, one('1')))
				parsed(t, "|"+f.source+r+"?|", flags, alt(empty(), little, empty()))
				// FSwap counts where the repetition is.
				if flags == 0 {
					parsed(t, "(?U:"+f.source+r+")", 0, lazy(b[0], b[1], n))
					parsed(t, "(?U:"+f.source+")"+r, 0, much)
					parsed(t, "(?U:(?:"+f.source+")"+r+"?)", 0, much)
				}
			}
		}
	}
}

// Only the bits of the four flags count.
func TestOtherBitsOfFlags(t *testing.T) {
	others := []int{0, 16, 32, 48, 1 << 10, 1 << 31, 1 << 32, 1 << 62, math.MinInt, math.MinInt + 1<<20, -16, -32, -1024, math.MaxInt &^ 15, math.MinInt | 16}
	for _, f := range atoms {
		for flags := range 16 {
			for _, other := range others {
				parsed(t, f.source, flags|other, f.with(flags))
			}
		}
	}
	for _, other := range others {
		parsed(t, "a*.^$[k](?-i)a", other, cat(star(one('a')), noLine(), assert(1), assert(2), one('k'), one('a')))
		parsed(t, "a*.^$[k](?-i)a", 15|other, cat(lazy(0, -1, letter('a')), everything(), assert(3), assert(4), letter('k'), one('a')))
		refused(t, "a**", other, 2, api.ErrNothing)
		refused(t, "[k", 1|other, 2, api.ErrEnd)
	}
	parsed(t, ".k^$a*", -1, cat(everything(), letter('k'), assert(3), assert(4), lazy(0, -1, letter('a'))))
	parsed(t, ".k^$a*", math.MaxInt, cat(everything(), letter('k'), assert(3), assert(4), lazy(0, -1, letter('a'))))
	parsed(t, ".k^$a*", math.MinInt, cat(noLine(), one('k'), assert(1), assert(2), star(one('a'))))
	parsed(t, ".k^$a*", -2, cat(everything(), one('k'), assert(3), assert(4), lazy(0, -1, one('a'))))
	parsed(t, ".k^$a*", -9, cat(everything(), letter('k'), assert(3), assert(4), star(letter('a'))))
}
