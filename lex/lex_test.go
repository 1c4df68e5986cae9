package lex_test

import (
	"slices"
	"strings"
	"testing"

	"burin/api"
	"burin/lex"
)

const top = api.MaxRune

type (
	token = api.Token
	list  = []api.Range
)

// of makes a list of the ends of its ranges.
func of(ends ...int) list {
	var l list
	for i := 0; i < len(ends); i += 2 {
		l = append(l, api.Range{Lo: ends[i], Hi: ends[i+1]})
	}
	return l
}

// The lists of class escapes that many tests use.
var (
	digits     = of(0x30, 0x39)
	noDigits   = of(0, 0x2F, 0x3A, top)
	spaces     = of(0x9, 0xA, 0xC, 0xD, 0x20, 0x20)
	noSpaces   = of(0, 8, 0xB, 0xB, 0xE, 0x1F, 0x21, top)
	words      = of(0x30, 0x39, 0x41, 0x5A, 0x5F, 0x5F, 0x61, 0x7A)
	noWords    = of(0, 0x2F, 0x3A, 0x40, 0x5B, 0x5E, 0x60, 0x60, 0x7B, top)
	greek      = of(0x370, 0x373, 0x375, 0x377, 0x37A, 0x37D, 0x37F, 0x37F, 0x384, 0x384, 0x386, 0x386, 0x388, 0x38A, 0x38C, 0x38C, 0x38E, 0x3A1, 0x3A3, 0x3E1, 0x3F0, 0x3FF, 0x2126, 0x2126)
	cyrillic   = of(0x400, 0x484, 0x487, 0x52F)
	noCyrillic = of(0, 0x3FF, 0x485, 0x486, 0x530, top)
)

// The kinds of tokens, each of them at an offset.

func one(at, num int) token              { return token{Kind: 1, At: at, Num: num} }
func set(at int, l list) token           { return token{Kind: 2, At: at, Set: l} }
func dot(at int) token                   { return token{Kind: 3, At: at} }
func anyByte(at int) token               { return token{Kind: 4, At: at} }
func assert(at, num int) token           { return token{Kind: 5, At: at, Num: num} }
func caret(at int) token                 { return token{Kind: 6, At: at} }
func dollar(at int) token                { return token{Kind: 7, At: at} }
func repeat(at, low, high int) token     { return token{Kind: 8, At: at, Min: low, Max: high} }
func lazy(at, low, high int) token       { return token{Kind: 8, At: at, Min: low, Max: high, Lazy: true} }
func group(at int, name string) token    { return token{Kind: 9, At: at, Num: 1, Name: name} }
func open(at, set, clear int) token      { return token{Kind: 9, At: at, Min: set, Max: clear} }
func flags(at, set, clear int) token     { return token{Kind: 10, At: at, Min: set, Max: clear} }
func closing(at int) token               { return token{Kind: 11, At: at} }
func bar(at int) token                   { return token{Kind: 12, At: at} }
func brackets(at int, name string) token { return token{Kind: 13, At: at, Name: name} }

// ones are tokens of the runes of s, the first of them at that offset.
func ones(at int, s string) []token {
	var l []token
	for i, r := range s {
		l = append(l, one(at+i, int(r)))
	}
	return l
}

// all puts lists of tokens together.
func all(lists ...[]token) []token { return slices.Concat(lists...) }

// equal reports whether two tokens have the same fields.
func equal(a, b token) bool {
	sameSet := slices.Equal(a.Set, b.Set)
	return sameSet && a.Kind == b.Kind && a.At == b.At && a.Num == b.Num && a.Name == b.Name && a.Min == b.Min && a.Max == b.Max && a.Lazy == b.Lazy
}

// lexed demands what Lex returns for s, if it returns no error.
func lexed(t *testing.T, s string, want ...token) {
	t.Helper()
	l, at, e := lex.Lex(s)
	if !slices.EqualFunc(l, want, equal) || at != 0 || e != api.OK {
		t.Errorf("Lex(%q) = %v, %d, %d, want %v, 0, OK", s, l, at, int(e), want)
	}
}

// refused demands an error of Lex and its offset, with no tokens.
func refused(t *testing.T, s string, at int, e api.Code) {
	t.Helper()
	l, gotAt, gotE := lex.Lex(s)
	if len(l) != 0 || gotAt != at || gotE != e {
		t.Errorf("Lex(%q) = %v, %d, %d, want nothing, %d, %d", s, l, gotAt, int(gotE), at, int(e))
	}
}

// accepted are patterns and their tokens.
var accepted = map[string][]token{
	"": nil,

	// the document's examples
	`a{2,}?`: {one(0, 'a'), lazy(1, 2, -1)}, `(?P<x>`: {group(0, "x")}, `a{`: {one(0, 'a'), one(1, '{')},

	// runes
	"a": {one(0, 'a')}, "ab": {one(0, 'a'), one(1, 'b')}, "\x00\x7F": {one(0, 0), one(1, 0x7F)},
	"\u00E9a\u20AC\U0001F600b":                                       {one(0, 0xE9), one(2, 'a'), one(3, 0x20AC), one(6, 0x1F600), one(10, 'b')},
	"\u0080\u07FF\u0800\uD7FF\uE000\uFFFD\uFFFF\U00010000\U0010FFFF": {one(0, 0x80), one(2, 0x7FF), one(4, 0x800), one(7, 0xD7FF), one(10, 0xE000), one(13, 0xFFFD), one(16, 0xFFFF), one(19, 0x10000), one(23, top)},
	"- !\"#%&',/:;<=>@_`~\n":                                         ones(0, "- !\"#%&',/:;<=>@_`~\n"),

	// signs
	".": {dot(0)}, "^": {caret(0)}, "$": {dollar(0)}, ")": {closing(0)}, "|": {bar(0)}, "(": {group(0, "")},
	".^$)|(":  {dot(0), caret(1), dollar(2), closing(3), bar(4), group(5, "")},
	"\u00E9.": {one(0, 0xE9), dot(2)}, "a|b*": {one(0, 'a'), bar(1), one(2, 'b'), repeat(3, 0, -1)},

	// a } and a ] outside of brackets, and a { that begins no repetition
	"]": {one(0, ']')}, "}": {one(0, '}')}, "{": {one(0, '{')}, "]}{": ones(0, "]}{"), "a]]": ones(0, "a]]"), "{}": ones(0, "{}"), "a{}": ones(0, "a{}"),
	"{,}": ones(0, "{,}"), "{,1}": ones(0, "{,1}"), "{1": ones(0, "{1"), "{1,": ones(0, "{1,"), "{1,2": ones(0, "{1,2"), "{a}": ones(0, "{a}"), "{1a}": ones(0, "{1a}"), "{a1}": ones(0, "{a1}"),
	"{ 1}": ones(0, "{ 1}"), "{1 }": ones(0, "{1 }"), "{1, 2}": ones(0, "{1, 2}"), "{1,,2}": ones(0, "{1,,2}"), "{1,2,3}": ones(0, "{1,2,3}"), "{1,2,}": ones(0, "{1,2,}"), "{-1}": ones(0, "{-1}"), "{1,-1}": ones(0, "{1,-1}"),
	"{1,a}": ones(0, "{1,a}"), "{0x1}": ones(0, "{0x1}"), "{1_0}": ones(0, "{1_0}"), "{1;2}": ones(0, "{1;2}"), "{\u0661}": ones(0, "{\u0661}"), "{\uFF11}": ones(0, "{\uFF11}"), "{1,\u0662}": ones(0, "{1,\u0662}"),
	"{+1}": {one(0, '{'), repeat(1, 1, -1), one(2, '1'), one(3, '}')}, "{1,+2}": {one(0, '{'), one(1, '1'), one(2, ','), repeat(3, 1, -1), one(4, '2'), one(5, '}')},
	"{{1}": {one(0, '{'), repeat(1, 1, 1)}, "{1{2}": {one(0, '{'), one(1, '1'), repeat(2, 2, 2)}, "{1,{2}": {one(0, '{'), one(1, '1'), one(2, ','), repeat(3, 2, 2)},
	"{1}}": {repeat(0, 1, 1), one(3, '}')}, "{*}": {one(0, '{'), repeat(1, 0, -1), one(2, '}')}, "{?}": {one(0, '{'), repeat(1, 0, 1), one(2, '}')}, "{.}": {one(0, '{'), dot(1), one(2, '}')},
	"{1?}": {one(0, '{'), one(1, '1'), repeat(2, 0, 1), one(3, '}')}, "{1,2?}": {one(0, '{'), one(1, '1'), one(2, ','), one(3, '2'), repeat(4, 0, 1), one(5, '}')},
	`{1\}`: {one(0, '{'), one(1, '1'), one(2, '}')}, `{1\x7D`: {one(0, '{'), one(1, '1'), one(2, '}')}, `{\d}`: {one(0, '{'), set(1, digits), one(3, '}')},
	// numbers of five digits
	"{12345}": ones(0, "{12345}"), "{00001}": ones(0, "{00001}"), "{00000}": ones(0, "{00000}"), "{00001,}": ones(0, "{00001,}"), "{1,00002}": ones(0, "{1,00002}"), "{12345,1}": ones(0, "{12345,1}"), "{2,12345}": ones(0, "{2,12345}"),
	"{99999999999999999999}": ones(0, "{99999999999999999999}"), "{1,99999999999999999999}": ones(0, "{1,99999999999999999999}"), "{2,00001}": ones(0, "{2,00001}"), "{1001,00001}": ones(0, "{1001,00001}"), "{1001": ones(0, "{1001"), "{2,1": ones(0, "{2,1"),

	// escapes
	`\A\z\b\B\C`:   {assert(0, 1), assert(2, 2), assert(4, 5), assert(6, 6), anyByte(8)},
	`\d\D\s\S\w\W`: {set(0, digits), set(2, noDigits), set(4, spaces), set(6, noSpaces), set(8, words), set(10, noWords)},
	`\p{Greek}\p{Cyrillic}\P{Cyrillic}\P{^Greek}a`: {set(0, greek), set(9, cyrillic), set(21, noCyrillic), set(33, greek), one(43, 'a')},
	`\P{Any}`: {set(0, nil)}, `\p{Any}`: {set(0, of(0, top))}, `\p{^Any}b`: {set(0, nil), one(8, 'b')},
	`\a\f\t\n\r\v`:                      {one(0, 7), one(2, 0xC), one(4, 9), one(6, 0xA), one(8, 0xD), one(10, 0xB)},
	`\x41\x{e9}\x{10FFFF}\x{D800}\x000`: {one(0, 'A'), one(4, 0xE9), one(10, top), one(20, 0xD800), one(28, 0), one(32, '0')},
	`\.\\\[\]\{\}\(\)\*\+\?\|\^\$`:      {one(0, '.'), one(2, '\\'), one(4, '['), one(6, ']'), one(8, '{'), one(10, '}'), one(12, '('), one(14, ')'), one(16, '*'), one(18, '+'), one(20, '?'), one(22, '|'), one(24, '^'), one(26, '$')},
	`\_\-\ba`:                           {one(0, '_'), one(2, '-'), assert(4, 5), one(6, 'a')}, `\\d`: {one(0, '\\'), one(2, 'd')}, `\\\d`: {one(0, '\\'), set(2, digits)}, `\\Q*\\E`: {one(0, '\\'), one(2, 'Q'), repeat(3, 0, -1), one(4, '\\'), one(6, 'E')},
	`\{2}`: {one(0, '{'), one(2, '2'), one(3, '}')}, `\(?:`: {one(0, '('), repeat(2, 0, 1), one(3, ':')}, `\[a]`: {one(0, '['), one(2, 'a'), one(3, ']')},

	// bracket expressions
	"[a]": {brackets(0, "[a]")}, "a[^]b]c": {one(0, 'a'), brackets(1, "[^]b]"), one(6, 'c')}, "[a]]": {brackets(0, "[a]"), one(3, ']')}, "[]]]": {brackets(0, "[]]"), one(3, ']')},
	"[[:alpha:]_]*": {brackets(0, "[[:alpha:]_]"), repeat(12, 0, -1)}, `[\]][\d\-\x{41}]`: {brackets(0, `[\]]`), brackets(4, `[\d\-\x{41}]`)}, "[a-\u00E9]\u00E9": {brackets(0, "[a-\u00E9]"), one(6, 0xE9)},
	"[*+?{2}()|.^$]": {brackets(0, "[*+?{2}()|.^$]")}, "[k][K]": {brackets(0, "[k]"), brackets(3, "[K]")}, `[^\x{0}-\x{10FFFF}]`: {brackets(0, `[^\x{0}-\x{10FFFF}]`)}, `(?i)[a]`: {flags(0, 1, 0), brackets(4, "[a]")},
	"[(?P<1>]": {brackets(0, "[(?P<1>]")},
}

func TestLexByHand(t *testing.T) {
	for s, want := range accepted {
		lexed(t, s, want...)
	}
}

func TestEveryRune(t *testing.T) {
	for r := range top + 1 {
		if r >= 0xD800 && r <= 0xDFFF || r < 0x80 && strings.ContainsRune(`.^$)|(*+?[\`, rune(r)) {
			continue
		}
		s := string(rune(r))
		lexed(t, s+s, one(0, r), one(len(s), r))
	}
}

// signs are the bytes that stand for themselves after a backslash.
const signs = "!\"#$%&'()*+,-./:;<=>?@[\\]^_`{|}~"

func TestEscapesOfEveryByte(t *testing.T) {
	want := map[byte]token{
		'A': assert(1, api.ABegin), 'z': assert(1, api.AEnd), 'b': assert(1, api.AWord), 'B': assert(1, api.ANoWord), 'C': anyByte(1),
		'd': set(1, digits), 'D': set(1, noDigits), 's': set(1, spaces), 'S': set(1, noSpaces), 'w': set(1, words), 'W': set(1, noWords),
		'a': one(1, 7), 'f': one(1, 0xC), 't': one(1, 9), 'n': one(1, 0xA), 'r': one(1, 0xD), 'v': one(1, 0xB),
	}
	for i := range len(signs) {
		want[signs[i]] = one(1, int(signs[i]))
	}
	for i := range 256 {
		c := byte(i)
		for _, tail := range []string{"", ".", "a", "E", "{", "\u00E9"} {
			s := ".\\" + string([]byte{c}) + tail
			x, known := want[c]
			switch {
			case known && tail == ".":
				lexed(t, s, dot(0), x, dot(3))
			case known:
				lexed(t, s, all([]token{dot(0), x}, ones(3, tail))...)
			case c == 'Q':
				lexed(t, s, all([]token{dot(0)}, ones(3, tail))...)
			case strings.IndexByte("pPx", c) >= 0 && tail == "" || c == 'p' && tail == "{" || c == 'P' && tail == "{" || c == 'x' && (tail == "a" || tail == "E" || tail == "{"):
				refused(t, s, 1, api.ErrEnd)
			case c == 'p' || c == 'P':
				refused(t, s, 1, api.ErrClass)
			default:
				refused(t, s, 1, api.ErrEscape)
			}
		}
	}
}

func TestAPatternMayNotBeLongerThanMaxPattern(t *testing.T) {
	const most = api.MaxPattern
	x := strings.Repeat("x", most)
	lexed(t, x, ones(0, x)...)
	lexed(t, x[:most-1], ones(0, x[:most-1])...)
	lexed(t, x[2:]+"\u00E9", append(ones(0, x[2:]), one(most-2, 0xE9))...)
	lexed(t, `\Q`+x[4:]+`\E`, ones(2, x[4:])...)
	lexed(t, "["+x[2:]+"]", brackets(0, "["+x[2:]+"]"))
	lexed(t, x[3:]+"[a]", append(ones(0, x[3:]), brackets(most-3, "[a]"))...)
	refused(t, x[1:]+"\xFF", most-1, api.ErrForm)
	refused(t, x[1:]+"\\", most-1, api.ErrEnd)
	refused(t, x[1:]+"[", most, api.ErrEnd)
	refused(t, x[6:]+"{1001}", most-6, api.ErrRepeat)
	for _, tail := range []string{"x", "\xFF", "\\", "[", ".", "xx", x, strings.Repeat(x, 300)} {
		refused(t, x+tail, 0, api.ErrLong)
		refused(t, "\xFF"+x[1:]+tail, 0, api.ErrLong)
		refused(t, "["+x[1:]+tail, 0, api.ErrLong)
		refused(t, "x(?"+x[3:]+tail, 0, api.ErrLong)
	}
	// What counts are bytes: runes, tokens, or what is without tokens do not.
	refused(t, strings.Repeat("\u20AC", most/3+1), 0, api.ErrLong)
	refused(t, strings.Repeat(`\Q\E`, most/4)+" ", 0, api.ErrLong)
	lexed(t, strings.Repeat(`\Q\E`, most/4))
	refused(t, "["+x[1:]+"]", 0, api.ErrLong)
}

// What a long pattern takes must not grow much faster than it does.
func TestLongPatterns(t *testing.T) {
	for _, part := range []string{"{", "{1", "{1,", "[[:", "[", "(?", "(?P<", "(?P<x", "(?i", "(", `\Q`, `\p{`, `\pL`, "[a]", `[\pL]`, `\d`, "*?", "{1000}", "(?imsU-imsU)", `\Q\`} {
		s := strings.Repeat(part, api.MaxPattern/len(part))
		l, at, e := lex.Lex(s)
		if e == api.OK && at != 0 || e != api.OK && (len(l) > 0 || at > len(s)) {
			t.Errorf("%q again and again: %d tokens, %d, %d", part, len(l), at, int(e))
		}
	}
}
