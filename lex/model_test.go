package lex_test

import (
	"math/rand/v2"
	"regexp"
	"strconv"
	"strings"
	"testing"
	"unicode/utf8"

	"burin/api"
	"burin/bracket"
	"burin/lex"
)

// The forms of tokens, as the library's regular expressions.
var (
	quoteForm  = regexp.MustCompile(`(?s)^\\Q(.*?)(\\E|$)`)
	repeatForm = regexp.MustCompile(`^(?:([*+?])|\{([0-9]{1,4})(?:(,)([0-9]{1,4})?)?\})(\?)?`)
	nameForm   = regexp.MustCompile(`^\(\?P?<([A-Za-z_][0-9A-Za-z_]{0,31})>`)
	flagForm   = regexp.MustCompile(`^\(\?(?:([imsU]+)|([imsU]*)-([imsU]+))([:)])`)
)

// modelRunes appends the tokens of the runes of s, the first of them at that offset, up to the first invalid byte.
func modelRunes(l []token, s string, at int) (got []token, bad int) {
	for i := 0; i < len(s); {
		r, n := utf8.DecodeRuneInString(s[i:])
		if r == utf8.RuneError && n == 1 {
			return nil, at + i
		}
		l = append(l, one(at+i, int(r)))
		i += n
	}
	return l, -1
}

// modelRepeat is a repetition by its definition; m is what repeatForm found.
func modelRepeat(m []string, at int) (token, api.Code) {
	low, _ := strconv.Atoi(m[2])
	high, _ := strconv.Atoi(m[4])
	switch {
	case m[1] == "*":
		low, high = 0, -1
	case m[1] == "+":
		low, high = 1, -1
	case m[1] == "?":
		low, high = 0, 1
	case m[3] == "":
		high = low
	case m[4] == "":
		high = -1
	}
	if isError(low, high) {
		return token{}, api.ErrRepeat
	}
	return token{Kind: api.TRepeat, At: at, Min: low, Max: high, Lazy: m[5] != ""}, api.OK
}

// modelFlags is what the letters of a flagForm set and clear: each flag by its own.
func modelFlags(before, after string) (sets, clears int) {
	for letter, flag := range map[string]int{"i": api.FFold, "m": api.FLines, "s": api.FDot, "U": api.FSwap} {
		switch {
		case strings.Contains(after, letter):
			clears += flag
		case strings.Contains(before, letter):
			sets += flag
		}
	}
	return sets, clears
}

// modelOpen is what begins with a parenthesis, by its definition.
func modelOpen(rest string, at int) (token, int, api.Code) {
	if !strings.HasPrefix(rest, "(?") {
		return group(at, ""), 1, api.OK
	}
	if strings.HasPrefix(rest, "(?:") {
		return open(at, 0, 0), 3, api.OK
	}
	if m := nameForm.FindStringSubmatch(rest); m != nil {
		return group(at, m[1]), len(m[0]), api.OK
	}
	m := flagForm.FindStringSubmatch(rest)
	if m == nil {
		return token{}, 0, api.ErrGroup
	}
	sets, clears := modelFlags(m[1]+m[2], m[3])
	if m[4] == ":" {
		return open(at, sets, clears), len(m[0]), api.OK
	}
	return flags(at, sets, clears), len(m[0]), api.OK
}

// modelEscape is what begins with a backslash, by its definition.
func modelEscape(rest string, at int) (token, int, api.Code) {
	for s, x := range map[string]token{`\A`: assert(at, 1), `\z`: assert(at, 2), `\b`: assert(at, 5), `\B`: assert(at, 6), `\C`: anyByte(at)} {
		if strings.HasPrefix(rest, s) {
			return x, 2, api.OK
		}
	}
	if len(rest) > 1 && strings.IndexByte("dswDSWpP", rest[1]) >= 0 {
		l, n, e := bracket.Set(rest)
		return set(at, l), n, e
	}
	r, n, e := bracket.Number(rest)
	return one(at, r), n, e
}

// modelLex is Lex by its definition.
func modelLex(s string) (l []token, at int, e api.Code) {
	if len(s) > 4096 {
		return nil, 0, api.ErrLong
	}
	plain := map[byte]int{'.': api.TAny, '^': api.TCaret, '$': api.TDollar, ')': api.TClose, '|': api.TBar}
	for at := 0; at < len(s); {
		rest := s[at:]
		var x token
		var n int
		if m := quoteForm.FindStringSubmatch(rest); m != nil {
			var bad int
			if l, bad = modelRunes(l, m[1], at+2); bad >= 0 {
				return nil, bad, api.ErrForm
			}
			at += len(m[0])
			continue
		}
		m := repeatForm.FindStringSubmatch(rest)
		switch kind := plain[rest[0]]; {
		case kind > 0:
			x, n = token{Kind: kind, At: at}, 1
		case m != nil:
			x, e = modelRepeat(m, at)
			n = len(m[0])
		case rest[0] == '(':
			x, n, e = modelOpen(rest, at)
		case rest[0] == '\\':
			x, n, e = modelEscape(rest, at)
		case rest[0] == '[':
			_, n, e = bracket.Bracket(rest, 0)
			if e != api.OK {
				return nil, at + n, e
			}
			x = brackets(at, rest[:n])
		default:
			r, size := utf8.DecodeRuneInString(rest)
			if r == utf8.RuneError && size == 1 {
				return nil, at, api.ErrForm
			}
			x, n = one(at, int(r)), size
		}
		if e != api.OK {
			return nil, at, e
		}
		l = append(l, x)
		at += n
	}
	return l, 0, api.OK
}

// likeTheModel demands of Lex what the model returns for s, and whatever else holds for all patterns.
func likeTheModel(t *testing.T, s string) {
	t.Helper()
	l, at, e := modelLex(s)
	if e == api.OK {
		lexed(t, s, l...)
	} else {
		refused(t, s, at, e)
	}
	ascending(t, s)
}

// ascending demands that the offsets of the tokens are within s, each of them greater than the one before it.
func ascending(t *testing.T, s string) {
	t.Helper()
	l, at, _ := lex.Lex(s)
	if at < 0 || at > len(s) {
		t.Errorf("Lex(%q): the offset %d", s, at)
	}
	last := -1
	for _, x := range l {
		if x.At <= last || x.At >= len(s) {
			t.Errorf("Lex(%q): a token at %d follows one at %d", s, x.At, last)
		}
		last = x.At
	}
}

// each visits all strings of up to that many bytes of an alphabet, each of them behind front.
func each(front, alphabet string, most int, visit func(s string)) {
	visit(front)
	if most == 0 {
		return
	}
	for i := range len(alphabet) {
		each(front+alphabet[i:i+1], alphabet, most-1, visit)
	}
}

func TestShortPatternsAreThoseOfTheModel(t *testing.T) {
	visit := func(s string) { likeTheModel(t, s) }
	each("", "{},19?", 6, visit)
	each("{", "},012?", 6, visit)
	each("{100", ",0123}", 6, visit)
	each("", "*+?{1}", 5, visit)
	each("", "(?P<a>:i-)", 4, visit)
	each("(?", "P<a1_>", 5, visit)
	each("(?", "imsU-:)", 5, visit)
	each("", "\\QE*a\xC3\xA9", 5, visit)
	each("\\Q", "\\QE[\xFF", 6, visit)
	each("", "[]^\\-:d(", 5, visit)
	each("", "\xC3\xA9\xED\xA0\xF0\x9F.", 4, visit)
	each("", "\\pP{}xL1", 5, visit)
	each("", ".^$|()\\bz", 4, visit)
}

func TestPatternsOfTwoBytesAreThoseOfTheModel(t *testing.T) {
	for i := range 256 {
		for j := range 256 {
			two := string([]byte{byte(i), byte(j)})
			for _, s := range []string{two, "a" + two + "?", "\\" + two, "[" + two + "]", "(" + two + ")", "(?" + two, `\Q` + two + `\E`, "{" + two + "}"} {
				likeTheModel(t, s)
			}
		}
	}
}

// pieces are what patterns are made of, and what spoils them.
var pieces = []string{
	"a", "z", "E", "Q", "0", "1", "9", ",", "-", ":", "<", ">", "=", "P", "i", "U", " ", "\n", "\x00", "\x7F", "\u00E9", "\u20AC", "\uFFFD", "\U0001F600", "\U0010FFFF",
	".", "^", "$", "|", "(", ")", "[", "]", "{", "}", "*", "+", "?", "\\", "??", "*?",
	"{2}", "{2,}", "{2,3}", "{0002,03}?", "{1000}", "{1001}", "{3,2}", "{1001,1}", "{12345}", "{,1}", "{1", "{1,",
	"(?:", "(?i)", "(?i:", "(?s-mU:", "(?-i)", "(?i-i)", "(?-)", "(?i-)", "(?)", "(?x)", "(?i", "(?", "(?P<x>", "(?<y_1>", "(?P<1>", "(?<", "(?P=x)", "(?=",
	`\A`, `\z`, `\b`, `\B`, `\C`, `\d`, `\W`, `\pL`, `\PL`, `\p{Greek}`, `\P{^Lu}`, `\p`, `\P{`, `\p{x}`, `\p1`,
	`\n`, `\x41`, `\x{1F600}`, `\x{110000}`, `\x{`, `\x4`, `\q`, `\1`, `\ `, `\.`, `\\`, `\[`, `\Q`, `\E`, `\Qa*\E`, `\Q\\E`, `\Z`, `\G`,
	"[a]", "[^a-z]", "[]]", "[[:alpha:]]", "[[:x:]]", "[b-a]", `[a-\d]`, "[[:", "[a", `[\]]`, `[\q]`, "[\xFF]",
	"\xFF", "\xC3", "\x80", "\xED\xA0\x80",
}

func TestPatternsOfPiecesAreThoseOfTheModel(t *testing.T) {
	for _, x := range pieces {
		for _, y := range pieces {
			for _, z := range []string{"", "?", "}", ")", "]", "a", `\E`, "\xFF"} {
				likeTheModel(t, x+y+z)
				likeTheModel(t, `\Q`+x+y+`\E`+z)
			}
		}
	}
	random := rand.New(rand.NewPCG(8, 1))
	for range 200_000 {
		var s string
		for range 1 + random.IntN(12) {
			s += pieces[random.IntN(len(pieces))]
		}
		likeTheModel(t, s)
	}
}

// longOnes has in it all that a pattern may have.
var longOnes = []string{
	"a\u00E9.^$|()*+??{2}{3,}?{04,5}(?:(?i)(?s-m:(?P<x>(?<y_1>[^]a-\u00E9\\d[:alpha:]]*?\\Q\\(\u20AC\\E\\d\\P{^Lu}\\pL\\x41\\x{1F600}\\n\\.\\A\\z\\b\\B\\C]}{",
	"\\Qa\\\\E{1}[\\]]*(?-U)\\Q\\E{0,1000}?(a{,2}|\U0001F600){\\Q(?\\E}\\Q[",
}

func TestPatternsThatAreSpoiledAnywhere(t *testing.T) {
	for _, s := range longOnes {
		if _, _, e := lex.Lex(s); e != api.OK {
			t.Errorf("Lex(%q): %d", s, int(e))
		}
		for n := range len(s) + 1 {
			likeTheModel(t, s[:n])
			likeTheModel(t, s[n:])
			for i := range 256 {
				c := string([]byte{byte(i)})
				likeTheModel(t, s[:n]+c+s[n:])
				likeTheModel(t, s[:n]+c+s[min(n+1, len(s)):])
			}
		}
	}
}

func TestAnyBytesAreThoseOfTheModel(t *testing.T) {
	random := rand.New(rand.NewPCG(8, 2))
	for range 100_000 {
		b := make([]byte, random.IntN(24))
		for i := range b {
			b[i] = byte(random.IntN(256))
		}
		likeTheModel(t, string(b))
	}
}
