package bracket_test

import (
	"math"
	"slices"
	"strconv"
	"strings"
	"testing"
	"unicode/utf8"

	"burin/api"
	"burin/bracket"
	"burin/fold"
	"burin/ranges"
)

// Flags that do not fold, and the same with FFold.
var (
	plainFlags = []int{0, api.FLines, api.FDot, api.FSwap, api.FLines | api.FDot | api.FSwap, 16, 1 << 40, -2, math.MinInt, math.MaxInt - 1}
	foldFlags  = []int{api.FFold, api.FFold | api.FLines, api.FFold | api.FDot, api.FFold | api.FSwap, 15, 17, 1<<40 | 1, -1, math.MinInt + 1, math.MaxInt}
)

// parsed demands what Bracket returns for s, if it returns no error.
func parsed(t *testing.T, s string, flags int, l list, n int) {
	t.Helper()
	gotL, gotN, e := bracket.Bracket(s, flags)
	if !slices.Equal(gotL, l) || gotN != n || e != api.OK {
		t.Errorf("Bracket(%q, %d) = %X, %d, %d, want %X, %d, OK", s, flags, gotL, gotN, e, l, n)
	}
}

// refused demands an error of Bracket and its offset, with no list.
func refused(t *testing.T, s string, flags, at int, e api.Code) {
	t.Helper()
	l, gotAt, gotE := bracket.Bracket(s, flags)
	if len(l) != 0 || gotAt != at || gotE != e {
		t.Errorf("Bracket(%q, %d) = %X, %d, %d, want nothing, %d, %d", s, flags, l, gotAt, gotE, at, e)
	}
}

// union returns the list of what is in one of the lists.
func union(lists ...list) list { return ranges.Norm(slices.Concat(lists...)) }

// accepted are bracket expressions and their lists without FFold.
var accepted = map[string]list{
	// the document's examples
	`[^a-c\d]`: others(of('0', '9', 'a', 'c')), `[]-]`: of('-', '-', ']', ']'),

	// characters
	`[a]`: of('a', 'a'), `[ab]`: of('a', 'b'), `[ba]`: of('a', 'b'), `[aa]`: of('a', 'a'),
	`[ac]`: of('a', 'a', 'c', 'c'), `[ ]`: of(' ', ' '),
	"[\x00]": of(0, 0), "[\n\x7F]": of(0xA, 0xA, 0x7F, 0x7F),
	"[\u0080\u07FF\u0800\uD7FF\uE000\uFFFF\U00010000\U0010FFFF]": of(0x80, 0x80, 0x7FF, 0x800, 0xD7FF, 0xD7FF, 0xE000, 0xE000, 0xFFFF, 0x10000, top, top),
	"[\uFFFD]": of(0xFFFD, 0xFFFD), `[.*+?(){}|$]`: of('$', '$', '(', '+', '.', '.', '?', '?', '{', '}'),
	`[\a\f\t\n\r\v]`: of(7, 7, 9, 0xD), `[\x41\x{42}\x{43}\x{000044}]`: of('A', 'D'), `[\]]`: of(']', ']'),
	`[\[\\\]\^\-\:]`: of('-', '-', ':', ':', '[', '^'),
	`[\_]`:           of('_', '_'), `[\~\!]`: of('!', '!', '~', '~'), `[\x411]`: of('1', '1', 'A', 'A'), `[\x{0}]`: of(0, 0),
	`[\x{10FFFF}]`: of(top, top),
	// escapes may stand for what is no rune
	`[\x{D800}]`: of(0xD800, 0xD800), `[\x{d7ff}-\x{e000}]`: of(0xD7FF, 0xE000),
	`[\x{D800}-\x{DFFF}]`: of(0xD800, 0xDFFF), `[^\x{D800}-\x{DFFF}]`: of(0, 0xD7FF, 0xE000, top),
	`[a-\x{DFFF}]`: of('a', 0xDFFF), "[\\x{DFFF}-\uE000]": of(0xDFFF, 0xE000),

	// ranges
	`[a-c]`: of('a', 'c'), `[a-a]`: of('a', 'a'), `[a-cb-z]`: of('a', 'z'), `[a-cd-f]`: of('a', 'f'),
	`[x-za-c]`: of('a', 'c', 'x', 'z'), "[\u00E9-\u20AC]": of(0xE9, 0x20AC),
	"[\x00-\U0010FFFF]": all, `[\x00-\x{10FFFF}]`: all, "[\\t-\u00E9]": of(9, 0xE9), `[!-\x{7e}]`: of(0x21, 0x7E),
	`[\!-\~]`: of(0x21, 0x7E), `[A-\]]`: of('A', ']'), `[\[-\]]`: of('[', ']'), `[\x41-Z]`: of('A', 'Z'),
	`[0-\x{39}a]`: of('0', '9', 'a', 'a'), `[ -~]`: of(0x20, 0x7E),

	// a first ], and a later one
	`[]]`: of(']', ']'), `[]a]`: of(']', ']', 'a', 'a'), `[^]]`: others(of(']', ']')),
	`[^]a]`: others(of(']', ']', 'a', 'a')), `[]-a]`: of(']', 'a'), `[^]-a]`: others(of(']', 'a')),
	`[]\]]`: of(']', ']'), `[][]`: of('[', '[', ']', ']'), `[][a]`: of('[', '[', ']', ']', 'a', 'a'),
	`[a\]]`: of(']', ']', 'a', 'a'), `[]^]`: of(']', '^'), `[]\d]`: union(digits, of(']', ']')),
	`[][:digit:]]`: union(digits, of(']', ']')),
	`[]-\]]`:       of(']', ']'),

	// ^
	`[^a]`: others(of('a', 'a')), `[a^]`: of('^', '^', 'a', 'a'), `[^^]`: others(of('^', '^')),
	`[^^^]`: others(of('^', '^')), `[\^]`: of('^', '^'), `[\^a]`: of('^', '^', 'a', 'a'),
	`[^-a]`: others(of('-', '-', 'a', 'a')), `[a^b]`: of('^', '^', 'a', 'b'),
	`[^\d]`: others(digits), `[^\D]`: digits, `[^[:^digit:]]`: digits, `[^\P{Nd}]`: decimals,
	`[^\x{0}-\x{10FFFF}]`: nil, `[^\p{Any}]`: nil, `[^\s\S]`: nil, `[^\P{Any}]`: all, `[X-^]`: of('X', '^'),
	`[^X-^]`: others(of('X', '^')),

	// colon classes
	`[[:digit:]]`: digits, `[[:^digit:]]`: others(digits), `[[:word:]]`: words,
	`[[:digit:][:xdigit:]]`: of('0', '9', 'A', 'F', 'a', 'f'), `[a[:digit:]z]`: of('0', '9', 'a', 'a', 'z', 'z'),
	`[[:digit:]-a]`:  of('-', '-', '0', '9', 'a', 'a'),
	`[[:digit:]--/]`: of('-', '9'), `[[:digit:]-]`: of('-', '-', '0', '9'), `[-[:digit:]]`: of('-', '-', '0', '9'),
	`[^[:ascii:]]`: of(0x80, top), `[[:^ascii:][:ascii:]]`: all,
	// a [ that begins no colon class
	`[[]`: of('[', '['), `[[a]`: of('[', '[', 'a', 'a'), `[a[]`: of('[', '[', 'a', 'a'),
	`[[[:digit:]]`: union(digits, of('[', '[')), `[[-a]`: of('[', 'a'), `[[-]`: of('-', '-', '[', '['),
	`[[^:digit:]`: of(':', ':', '[', '[', '^', '^', 'd', 'd', 'g', 'g', 'i', 'i', 't', 't'),
	`[\[:digit:]`: of(':', ':', '[', '[', 'd', 'd', 'g', 'g', 'i', 'i', 't', 't'),
	`[:digit:]`:   of(':', ':', 'd', 'd', 'g', 'g', 'i', 'i', 't', 't'), `[:]`: of(':', ':'),
	`[^:]`: others(of(':', ':')), `[:a-c:]`: of(':', ':', 'a', 'c'),

	// class escapes
	`[\d]`: digits, `[\D]`: others(digits), `[\s]`: spaces, `[\S]`: others(spaces), `[\w]`: words,
	`[\W]`: others(words), `[\d\D]`: all, `[\d\s]`: union(digits, spaces), `[\w-]`: union(words, of('-', '-')),
	`[\d-a]`:  of('-', '-', '0', '9', 'a', 'a'),
	`[\d--/]`: of('-', '9'), `[\d-\d]`: of('-', '-', '0', '9'), `[-\d]`: of('-', '-', '0', '9'),
	`[\p{Cyrillic}]`: cyrillic, `[\P{Cyrillic}]`: others(cyrillic), `[\p{^Cyrillic}]`: others(cyrillic),
	`[\P{^Cyrillic}]`: cyrillic,
	`[^\p{Cyrillic}]`: others(cyrillic), `[\p{Nd}\p{Cyrillic}]`: union(decimals, cyrillic),
	`[\p{Nd}-a]`: union(decimals, of('-', '-', 'a', 'a')), `[\P{Any}]`: nil, `[\p{Any}]`: all,
	`[\P{Any}a]`: of('a', 'a'),

	// a -
	`[-]`: of('-', '-'), `[a-]`: of('-', '-', 'a', 'a'), `[-a]`: of('-', '-', 'a', 'a'), `[^-]`: others(of('-', '-')),
	`[^a-]`: others(of('-', '-', 'a', 'a')), `[--]`: of('-', '-'), `[---]`: of('-', '-'), `[----]`: of('-', '-'),
	`[--a]`: of('-', 'a'), `[+--]`: of('+', '-'), `[+---]`: of('+', '-'),
	`[a-b-c]`: of('-', '-', 'a', 'c'), `[a-b--/]`: of('-', '/', 'a', 'b'), `[a-b-]`: of('-', '-', 'a', 'b'),
	`[\--a]`: of('-', 'a'), `[+-\-]`: of('+', '-'), `[a\-z]`: of('-', '-', 'a', 'a', 'z', 'z'),
	`[a-b-\d]`: union(digits, of('-', '-', 'a', 'b')), `[a-b-d-f]`: of('-', '-', 'a', 'b', 'd', 'f'),
	`[--\]]`: of('-', ']'),

	// a [ as a second character
	`[A-[]`: of('A', '['), `[A-[a]`: of('A', '[', 'a', 'a'),
	`[A-[:digit:]`: of(':', ':', 'A', '[', 'd', 'd', 'g', 'g', 'i', 'i', 't', 't'),
	`[+-[:digit:]`: of('+', '[', 'd', 'd', 'g', 'g', 'i', 'i', 't', 't'), `[A-[:]`: of(':', ':', 'A', '['),
	`[[-[]`: of('[', '['), `[[-[:]`: of(':', ':', '[', '['),
	`[A-[[:digit:]]`: union(digits, of('A', '[')),
	`[A-[:nothing]`:  union(of(':', ':', 'A', '['), of('g', 'i', 'n', 'o', 't', 't')),
}

func TestBracketByHand(t *testing.T) {
	for s, l := range accepted {
		for _, flags := range plainFlags {
			parsed(t, s, flags, l, len(s))
		}
	}
}

func TestBracketThatFolds(t *testing.T) {
	k := of('K', 'K', 'k', 'k', 0x212A, 0x212A)
	latin := of('A', 'Z', 'a', 'z', 0x17F, 0x17F, 0x212A, 0x212A)
	for s, l := range map[string]list{
		`[k]`: k, `[K]`: k, "[\u212A]": k, `[\x{212a}]`: k, `[\x6b]`: k, `[k-k]`: k, `[kK]`: k,
		`[Kk1]`: union(k, of('1', '1')),
		`[s]`:   of('S', 'S', 's', 's', 0x17F, 0x17F), "[\u00FF]": of(0xFF, 0xFF, 0x178, 0x178),
		"[\u00B5]": of(0xB5, 0xB5, 0x39C, 0x39C, 0x3BC, 0x3BC), "[\u03C3]": of(0x3A3, 0x3A3, 0x3C2, 0x3C3),
		"[\u0416]": of(0x416, 0x416, 0x436, 0x436),
		`[a-z]`:    latin, `[A-Z]`: latin, `[[:upper:]]`: latin, `[[:lower:]]`: latin, `[[:alpha:]]`: latin,
		`[a-mN-Z]`: latin, `[@-[]`: union(latin, of('@', '[')), `[a-b]`: of('A', 'B', 'a', 'b'),
		`[\w]`: union(words, latin), `[\d]`: digits, `[\s]`: spaces, `[1]`: of('1', '1'), "[\u00DF]": of(0xDF, 0xDF),
		`[\x{D800}]`: of(0xD800, 0xD800), `[]-]`: of('-', '-', ']', ']'),
		// Complements within the brackets are folded: K is in the family of 212A, which is no word byte.
		`[\W]`:        union(others(words), of('K', 'K', 'S', 'S', 'k', 'k', 's', 's')),
		`[[:^word:]]`: union(others(words), of('K', 'K', 'S', 'S', 'k', 'k', 's', 's')), `[[:^lower:]]`: all,
		`[\P{Lu}]`: all, `[\p{^Lu}]`: all, `[\D]`: others(digits),
		// The complement of ^ is taken of what is folded, and is not folded itself.
		`[^k]`: others(k), `[^\x{212A}]`: others(k), `[^a-z]`: others(latin), `[^[:upper:]]`: others(latin),
		`[^\w]`: others(union(words, latin)),
		`[^\W]`: ranges.Minus(words, of('K', 'K', 'S', 'S', 'k', 'k', 's', 's')), `[^\P{Lu}]`: nil, `[^\D]`: digits,
		`[\P{Any}]`: nil, `[^\P{Any}]`: all, `[\p{Any}]`: all, `[^\x{0}-\x{10FFFF}]`: nil,
	} {
		for _, flags := range foldFlags {
			parsed(t, s, flags, l, len(s))
		}
	}
}

func TestBracketFoldsBeforeItsComplement(t *testing.T) {
	for s, l := range accepted {
		want := fold.Close(l)
		if strings.HasPrefix(s, "[^") {
			want = others(fold.Close(others(l)))
		}
		for _, flags := range foldFlags {
			parsed(t, s, flags, want, len(s))
		}
	}
}

// refusal is an error of Bracket and its offset.
type refusal struct {
	at int
	e  api.Code
}

// refusals are what is no bracket expression.
var refusals = map[string]refusal{
	// an end where an item may begin, or a ] has to
	`[`: {1, api.ErrEnd}, `[^`: {2, api.ErrEnd}, `[]`: {2, api.ErrEnd}, `[^]`: {3, api.ErrEnd}, `[a`: {2, api.ErrEnd},
	`[ab`: {3, api.ErrEnd}, `[-`: {2, api.ErrEnd}, `[a-`: {3, api.ErrEnd}, `[a-b`: {4, api.ErrEnd},
	`[^a-b`: {5, api.ErrEnd},
	`[]-`:   {3, api.ErrEnd}, `[]-a`: {4, api.ErrEnd}, `[]a-`: {4, api.ErrEnd}, `[\n`: {3, api.ErrEnd},
	`[\]`: {3, api.ErrEnd}, `[a\]`: {4, api.ErrEnd}, `[a-\n`: {1, api.ErrClass}, `[A-\]`: {5, api.ErrEnd},
	`[\d`: {3, api.ErrEnd}, `[\d-`: {4, api.ErrEnd}, `[\pL`: {4, api.ErrEnd}, `[\p{L}`: {6, api.ErrEnd},
	`[\x41`: {5, api.ErrEnd}, `[\x{41}`: {7, api.ErrEnd}, `[[`: {2, api.ErrEnd}, `[[-`: {3, api.ErrEnd},
	`[[a`: {3, api.ErrEnd}, `[[:digit:]`: {10, api.ErrEnd}, `[[:digit:]-`: {11, api.ErrEnd},
	`[a-[`: {1, api.ErrClass}, `[A-[`: {4, api.ErrEnd}, `[A-[:`: {5, api.ErrEnd}, "[\u00E9": {3, api.ErrEnd},
	"[\u00E9-\u00E9": {6, api.ErrEnd},
	`[^^`:            {3, api.ErrEnd}, `[\^`: {3, api.ErrEnd}, `[[:digit:]:`: {11, api.ErrEnd},

	// [: without :]
	`[[:`: {1, api.ErrEnd}, `[[:]`: {1, api.ErrEnd}, `[[:]]`: {1, api.ErrEnd}, `[[:a`: {1, api.ErrEnd},
	`[[:digit`: {1, api.ErrEnd}, `[[:digit:`: {1, api.ErrEnd}, `[[:digit]`: {1, api.ErrEnd},
	`[[:digit]]`: {1, api.ErrEnd}, `[[:digit: ]]`: {1, api.ErrEnd}, `[a[:`: {2, api.ErrEnd},
	`[^[:`: {2, api.ErrEnd}, `[][:`: {2, api.ErrEnd}, `[[:digit:][:`: {10, api.ErrEnd},
	`[[:digit:][:digit]`: {10, api.ErrEnd}, `[[:\q`: {1, api.ErrEnd}, "[[:\xFF": {1, api.ErrEnd},
	`[[:nothing`: {1, api.ErrEnd}, `[a-b[:]`: {4, api.ErrEnd},

	// no such colon class
	`[[::]]`: {1, api.ErrClass}, `[[:::]]`: {1, api.ErrClass}, `[[:^:]]`: {1, api.ErrClass},
	`[[:nothing:]]`: {1, api.ErrClass}, `[[:^nothing:]]`: {1, api.ErrClass}, `[[:^^digit:]]`: {1, api.ErrClass},
	`[[:Digit:]]`: {1, api.ErrClass}, `[[: digit:]]`: {1, api.ErrClass}, `[[:digit :]]`: {1, api.ErrClass},
	`[[:d:]]`: {1, api.ErrClass}, `[[:Greek:]]`: {1, api.ErrClass}, `[[:]:]]`: {1, api.ErrClass},
	`[[:digit]:]]`: {1, api.ErrClass}, `[[:digit]:]`: {1, api.ErrClass}, `[[:]]:]`: {1, api.ErrClass},
	`[a[:nothing:]]`: {2, api.ErrClass}, `[^[:nothing:]]`: {2, api.ErrClass}, `[][:nothing:]]`: {2, api.ErrClass},
	`[[:digit:][:nothing:]]`: {10, api.ErrClass}, `[[:nothing:]`: {1, api.ErrClass}, "[[:\xFF:]]": {1, api.ErrClass},
	`[[:\q:]]`: {1, api.ErrClass}, `[[:[:digit:]]`: {1, api.ErrClass}, `[[:[:digit:]:]]`: {1, api.ErrClass},
	`[[:digit[:digit:]]`: {1, api.ErrClass}, `[a-b[:x:]]`: {4, api.ErrClass},

	// errors of Set for an item
	`[\p`: {1, api.ErrEnd}, `[\P`: {1, api.ErrEnd}, `[\p{`: {1, api.ErrEnd}, `[\p{Greek`: {1, api.ErrEnd},
	`[\p{Greek]`: {1, api.ErrEnd}, `[\P{]`: {1, api.ErrEnd}, `[a\p`: {2, api.ErrEnd}, `[a\p{`: {2, api.ErrEnd},
	`[^\p`: {2, api.ErrEnd}, `[]\p{`: {2, api.ErrEnd},
	`[\p]`: {1, api.ErrClass}, `[\P]]`: {1, api.ErrClass}, `[\p1]`: {1, api.ErrClass}, `[\p-]`: {1, api.ErrClass},
	`[\p^L]`: {1, api.ErrClass}, "[\\p\xFF]": {1, api.ErrClass}, `[\pq]`: {1, api.ErrClass},
	`[\Pq]`: {1, api.ErrClass}, `[\p{}]`: {1, api.ErrClass}, `[\p{^}]`: {1, api.ErrClass},
	`[\p{x}]`:     {1, api.ErrClass},
	`[\p{greek}]`: {1, api.ErrClass}, `[\P{^^Greek}]`: {1, api.ErrClass}, `[\p{Greek]}`: {1, api.ErrClass},
	`[a\pq]`: {2, api.ErrClass}, `[\d\p{x}]`: {3, api.ErrClass}, `[^\pq]`: {2, api.ErrClass},
	`[\p{digit}]`: {1, api.ErrClass}, `[\pq-z]`: {1, api.ErrClass},

	// errors of Number for the first character
	`[\`: {1, api.ErrEnd}, `[a\`: {2, api.ErrEnd}, `[^\`: {2, api.ErrEnd}, `[]\`: {2, api.ErrEnd},
	`[\x`: {1, api.ErrEnd}, `[\x4`: {1, api.ErrEnd}, `[\x{`: {1, api.ErrEnd}, `[\x{4`: {1, api.ErrEnd},
	`[\x{123456`: {1, api.ErrEnd}, `[\x{110000`: {1, api.ErrEnd}, `[a\x{41`: {2, api.ErrEnd},
	`[\d\x4`: {3, api.ErrEnd}, `[[:digit:]\`: {10, api.ErrEnd},
	`[\q]`: {1, api.ErrEscape}, `[\b]`: {1, api.ErrEscape}, `[\0]`: {1, api.ErrEscape}, `[\ ]`: {1, api.ErrEscape},
	`[\Q]`: {1, api.ErrEscape}, "[\\\xFF]": {1, api.ErrEscape}, "[\\\u00E9]": {1, api.ErrEscape},
	"[\\\x7F]": {1, api.ErrEscape}, `[\x]`: {1, api.ErrEscape}, `[\x4]`: {1, api.ErrEscape},
	`[\xg]`: {1, api.ErrEscape}, `[\x{]`: {1, api.ErrEscape}, `[\x{}]`: {1, api.ErrEscape},
	`[\x{4]`: {1, api.ErrEscape}, `[\x{0000041}]`: {1, api.ErrEscape}, `[\x{1234567`: {1, api.ErrEscape},
	`[\x{110000}]`: {1, api.ErrEscape}, `[\x{FFFFFF}]`: {1, api.ErrEscape}, `[a\q]`: {2, api.ErrEscape},
	`[^\q]`: {2, api.ErrEscape}, `[]\q]`: {2, api.ErrEscape}, `[\q-z]`: {1, api.ErrEscape},
	`[\d\q`: {3, api.ErrEscape}, `[\x{110000}-a]`: {1, api.ErrEscape},

	// bytes that are not the encoding of a rune
	"[\xFF]": {1, api.ErrForm}, "[\x80]": {1, api.ErrForm}, "[\xC3]": {1, api.ErrForm}, "[\xC3": {1, api.ErrForm},
	"[\xE2\x82]": {1, api.ErrForm}, "[\xE2\x82": {1, api.ErrForm}, "[\xF0\x9F\x98": {1, api.ErrForm},
	"[\xC0\x80]": {1, api.ErrForm}, "[\xED\xA0\x80]": {1, api.ErrForm}, "[\xED\xBF\xBF]": {1, api.ErrForm},
	"[\xF4\x90\x80\x80]": {1, api.ErrForm},
	"[a\xFF]":            {2, api.ErrForm}, "[^\xFF]": {2, api.ErrForm}, "[]\xFF]": {2, api.ErrForm},
	"[\u00E9\xA9]": {3, api.ErrForm}, "[\\d\xFF": {3, api.ErrForm}, "[\xFF-z]": {1, api.ErrForm},
	"[\xC3-\xA9]": {1, api.ErrForm}, "[[:digit:]\xFF]": {10, api.ErrForm}, "[a-z\xFF]": {4, api.ErrForm},

	// a class escape, valid or not, as a second character
	`[a-\d]`: {3, api.ErrClass}, `[a-\D]`: {3, api.ErrClass}, `[a-\s]`: {3, api.ErrClass},
	`[a-\S]`: {3, api.ErrClass}, `[a-\w]`: {3, api.ErrClass}, `[a-\W]`: {3, api.ErrClass}, `[a-\d`: {3, api.ErrClass},
	`[a-\pL]`: {3, api.ErrClass}, `[a-\PL]`: {3, api.ErrClass}, `[a-\p{Greek}]`: {3, api.ErrClass},
	`[a-\P{^Greek}]`: {3, api.ErrClass},
	`[a-\p`:          {3, api.ErrClass}, `[a-\P`: {3, api.ErrClass}, `[a-\p{`: {3, api.ErrClass},
	`[a-\p{Greek`: {3, api.ErrClass}, `[a-\p{Greek]`: {3, api.ErrClass}, `[a-\p]`: {3, api.ErrClass},
	`[a-\p1]`: {3, api.ErrClass}, `[a-\pq]`: {3, api.ErrClass}, `[a-\p{}]`: {3, api.ErrClass},
	`[a-\p{x}]`: {3, api.ErrClass}, `[^a-\d]`: {4, api.ErrClass}, `[]-\d]`: {3, api.ErrClass},
	`[\n-\d]`: {4, api.ErrClass}, `[\x41-\d]`: {6, api.ErrClass}, "[\u00E9-\\d]": {4, api.ErrClass},
	`[--\d]`: {3, api.ErrClass}, `[[-\d]`: {3, api.ErrClass}, `[xa-\d]`: {4, api.ErrClass},
	`[a-\p{x}-\q]`: {3, api.ErrClass}, `[\x{10FFFF}-\d]`: {12, api.ErrClass},

	// errors of Number for the second character
	`[a-\`: {3, api.ErrEnd}, `[a-\x`: {3, api.ErrEnd}, `[a-\x4`: {3, api.ErrEnd}, `[a-\x{`: {3, api.ErrEnd},
	`[a-\x{123456`: {3, api.ErrEnd}, `[]-\`: {3, api.ErrEnd}, `[^a-\`: {4, api.ErrEnd}, `[\n-\`: {4, api.ErrEnd},
	`[--\`: {3, api.ErrEnd}, "[\u00E9-\\x": {4, api.ErrEnd},
	`[a-\q]`: {3, api.ErrEscape}, `[a-\b]`: {3, api.ErrEscape}, `[a-\0]`: {3, api.ErrEscape},
	`[a-\ ]`: {3, api.ErrEscape}, "[a-\\\xFF]": {3, api.ErrEscape}, `[a-\x]`: {3, api.ErrEscape},
	`[a-\x4]`: {3, api.ErrEscape}, `[a-\x{}]`: {3, api.ErrEscape}, `[a-\x{110000}]`: {3, api.ErrEscape},
	`[a-\x{0000062}]`: {3, api.ErrEscape}, `[\x{41}-\q]`: {8, api.ErrEscape}, `[^]-\q]`: {4, api.ErrEscape},

	// a second character that is not the encoding of a rune
	"[a-\xFF]": {3, api.ErrForm}, "[a-\x80]": {3, api.ErrForm}, "[a-\xC3]": {3, api.ErrForm},
	"[a-\xC3": {3, api.ErrForm}, "[a-\xED\xA0\x80]": {3, api.ErrForm}, "[a-\xF4\x90\x80\x80]": {3, api.ErrForm},
	"[\\n-\xFF]": {4, api.ErrForm}, "[\u00E9-\xC3]": {4, api.ErrForm}, "[^]-\xFF]": {4, api.ErrForm},

	// a second character that is less than the first
	`[b-a]`: {1, api.ErrClass}, `[b-a`: {1, api.ErrClass}, `[xb-a]`: {2, api.ErrClass}, `[^b-a]`: {2, api.ErrClass},
	`[]-A]`: {1, api.ErrClass}, `[]-[]`: {1, api.ErrClass}, `[]--a]`: {1, api.ErrClass}, `[a--]`: {1, api.ErrClass},
	`[a-[]`: {1, api.ErrClass}, `[a-[:digit:]]`: {1, api.ErrClass}, `[a-\]]`: {1, api.ErrClass},
	`[a-\x60]`:    {1, api.ErrClass},
	`[\x{100}-a]`: {1, api.ErrClass}, `[\x{10FFFF}-\x{10FFFE}]`: {1, api.ErrClass}, "[\u00E9-a]": {1, api.ErrClass},
	"[\uE000-\\x{DFFF}]": {1, api.ErrClass}, `[\b-a]`: {1, api.ErrEscape}, `[\d--!]`: {3, api.ErrClass},
	`[a-c-e-b]`: {5, api.ErrClass}, `[a-bz-y]`: {4, api.ErrClass}, `[1-0]`: {1, api.ErrClass},
	`[a-Z]`: {1, api.ErrClass}, "[\x01-\x00]": {1, api.ErrClass},

	// the first of several errors
	`[b-a\q]`: {1, api.ErrClass}, `[\qb-a]`: {1, api.ErrEscape}, `[z-\q]`: {3, api.ErrEscape},
	`[z-\d\q]`: {3, api.ErrClass}, "[z-\xFF\\q]": {3, api.ErrForm}, "[\xFF[:nothing:]]": {1, api.ErrForm},
	"[[:nothing:]\xFF]": {1, api.ErrClass}, `[\pq\q]`: {1, api.ErrClass}, `[\q\pq`: {1, api.ErrEscape},
	`[a[:nothing:][:`: {2, api.ErrClass}, `[\q[:`: {1, api.ErrEscape}, `[\q`: {1, api.ErrEscape},
	`[a\q-`: {2, api.ErrEscape}, "[a-z\\q\xFF": {4, api.ErrEscape}, `[\d\p{x}\p`: {3, api.ErrClass},
}

func TestBracketRefused(t *testing.T) {
	for s, want := range refusals {
		for _, flags := range slices.Concat(plainFlags, foldFlags) {
			refused(t, s, flags, want.at, want.e)
		}
		// The same behind a class escape, which is no part of a range.
		if rest := s[1:]; !strings.HasPrefix(rest, "^") && !strings.HasPrefix(rest, "]") {
			refused(t, `[\s`+rest, 0, want.at+2, want.e)
			refused(t, `[^[:alpha:]`+rest, 0, want.at+10, want.e)
		}
	}
}

func TestBracketThatIsNone(t *testing.T) {
	refused(t, "", 0, 0, api.ErrForm)
	refused(t, "", api.FFold, 0, api.ErrForm)
	for i := range 256 {
		for _, tail := range []string{"", "a]", "[a]", "^a]", "[", "\xFF", "\\q]"} {
			if i != '[' {
				refused(t, string([]byte{byte(i)})+tail, 0, 0, api.ErrForm)
			}
		}
	}
	refused(t, "\uFF3Ba]", 0, 0, api.ErrForm)
}

// Every byte alone, behind ^, as both ends of a range, and behind a backslash.
func TestBracketOfEveryByte(t *testing.T) {
	for i := range 256 {
		one := string([]byte{byte(i)})
		self := of(i, i)
		switch {
		case i >= 0x80:
			refused(t, "["+one+"]", 0, 1, api.ErrForm)
			refused(t, "["+one, 0, 1, api.ErrForm)
			refused(t, "[^"+one+"]", 0, 2, api.ErrForm)
			refused(t, "[\x00-"+one+"]", 0, 3, api.ErrForm)
			refused(t, "["+one+"-z]", 0, 1, api.ErrForm)
			continue
		case one == "\\":
			refused(t, "["+one+"]", 0, 3, api.ErrEnd)
			continue
		case one != "^":
			parsed(t, "["+one+"]", 0, self, 3)
		}
		parsed(t, "[^"+one+"]", 0, others(self), 4)
		if one == "^" {
			parsed(t, "[^-\x7F]", 0, others(of('-', '-', 0x7F, 0x7F)), 5)
		} else {
			parsed(t, "["+one+"-\x7F]", 0, of(i, 0x7F), 5)
		}
		if one != "]" {
			parsed(t, "[\x00-"+one+"]", 0, of(0, i), 5)
			parsed(t, "[\x00a"+one+"]", 0, union(of(0, 0, 'a', 'a'), self), 5)
		}
		escaped := "[\\" + one + "]"
		l, isLetter := letters[byte(i)]
		r, isNamed := named[byte(i)]
		switch {
		case isLetter:
			parsed(t, escaped, 0, l, 4)
		case isNamed:
			parsed(t, escaped, 0, of(r, r), 4)
		case strings.Contains(signs, one):
			parsed(t, escaped, 0, self, 4)
		case one == "p" || one == "P":
			refused(t, escaped, 0, 1, api.ErrClass)
		default:
			refused(t, escaped, 0, 1, api.ErrEscape)
		}
	}
}

func TestBracketOfEveryRune(t *testing.T) {
	for r := range top + 1 {
		escaped := `[\x{` + strconv.FormatInt(int64(r), 16) + `}]`
		parsed(t, escaped, 0, of(r, r), len(escaped))
		if !utf8.ValidRune(rune(r)) || r < 0x80 {
			continue
		}
		s := string(rune(r))
		parsed(t, "["+s+"]", 0, of(r, r), len(s)+2)
		if r%16 == 0 {
			parsed(t, "[\u0080-"+s+"a]", 0, of('a', 'a', 0x80, r), len(s)+6)
			parsed(t, "["+s+"-\U0010FFFF]", 0, of(r, top), len(s)+7)
		}
	}
}

// What many items, or an item of many bytes, take must not grow much faster than they do.
func TestLongBrackets(t *testing.T) {
	const many = 1 << 17
	for _, c := range []struct {
		part string
		l    list
	}{
		{"a", of('a', 'a')}, {"az", of('a', 'a', 'z', 'z')}, {"a-z", of('a', 'z')}, {`\d`, digits},
		{`\W`, others(words)}, {"[:digit:]", digits}, {`\x{41}`, of('A', 'A')}, {"\u00E9", of(0xE9, 0xE9)},
		{"[", of('[', '[')},
	} {
		s := "[" + strings.Repeat(c.part, many)
		parsed(t, s+"]", 0, c.l, len(s)+1)
		refused(t, s, 0, len(s), api.ErrEnd)
	}
	refused(t, "["+strings.Repeat("[:", many), 0, 1, api.ErrEnd)
	refused(t, "[[:"+strings.Repeat("x", many)+":]]", 0, 1, api.ErrClass)
	refused(t, `[\p{`+strings.Repeat("x", many), 0, 1, api.ErrEnd)
	refused(t, `[a-\p{`+strings.Repeat("x", many), 0, 3, api.ErrClass)
	parsed(t, "["+strings.Repeat("^", many)+"]", 0, others(of('^', '^')), many+2)
	parsed(t, "["+strings.Repeat("-", 3*many)+"]", 0, of('-', '-'), 3*many+2)
}
