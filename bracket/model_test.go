package bracket_test

import (
	"math/rand/v2"
	"regexp"
	"regexp/syntax"
	"slices"
	"strconv"
	"strings"
	"testing"
	"unicode/utf8"

	"burin/api"
	"burin/bracket"
	"burin/class"
	"burin/fold"
	"burin/ranges"
)

// The forms of escapes, as the library's regular expressions.
var (
	numberForm = regexp.MustCompile(`^\\(?:([aftnrv])|x([0-9A-Fa-f]{2})|x\{([0-9A-Fa-f]{1,6})\}|([!-/:-@\[-\x60{-~]))`)
	numberCut  = regexp.MustCompile(`^\\(?:x[0-9A-Fa-f]?|x\{[0-9A-Fa-f]{0,6})?$`)
	setBegin   = regexp.MustCompile(`^\\[dswDSWpP]`)
	setCut     = regexp.MustCompile(`^\\[pP](?:$|\{[^}]*$)`)
	setForm    = regexp.MustCompile(`^\\(?:([dswDSW])|([pP])(?:([A-Za-z])|\{([^}]*)\}))`)
	colonForm  = regexp.MustCompile(`(?s)^\[:(.*?):\]`)
)

// modelNumber is Number by its definition.
func modelNumber(s string) (r, n int, e api.Code) {
	m := numberForm.FindStringSubmatch(s)
	switch {
	case s == "" || s[0] != '\\':
		return 0, 0, api.ErrForm
	case numberCut.MatchString(s):
		return 0, 0, api.ErrEnd
	case m == nil:
		return 0, 0, api.ErrEscape
	case m[1] != "":
		return named[m[1][0]], 2, api.OK
	case m[4] != "":
		return int(m[4][0]), 2, api.OK
	}
	r64, err := strconv.ParseInt(m[2]+m[3], 16, 64)
	if err != nil || r64 > api.MaxRune {
		return 0, 0, api.ErrEscape
	}
	return int(r64), len(m[0]), api.OK
}

// modelSet is Set by its definition.
func modelSet(s string) (list, int, api.Code) {
	m := setForm.FindStringSubmatch(s)
	switch {
	case s == "" || s[0] != '\\':
		return nil, 0, api.ErrForm
	case !setBegin.MatchString(s):
		return nil, 0, api.ErrNone
	case setCut.MatchString(s):
		return nil, 0, api.ErrEnd
	case m == nil:
		return nil, 0, api.ErrClass
	case m[1] != "":
		return letters[m[1][0]], 2, api.OK
	}
	name, complement := strings.CutPrefix(m[3]+m[4], "^")
	if !slices.Contains(class.Names(), name) {
		return nil, 0, api.ErrClass
	}
	l, _ := class.Property(name)
	if complement != (m[2] == "P") {
		l = others(l)
	}
	return l, len(m[0]), api.OK
}

// modelCharacter is a character of an item by its definition.
func modelCharacter(s string) (r, n int, e api.Code) {
	if s[0] == '\\' {
		return modelNumber(s)
	}
	c, n := utf8.DecodeRuneInString(s)
	if c == utf8.RuneError && n == 1 {
		return 0, 0, api.ErrForm
	}
	return int(c), n, api.OK
}

// modelItem is the item of s at the offset at: its list and the offset of its end, or its error and the error's offset.
func modelItem(s string, at int) (list, int, api.Code) {
	rest := s[at:]
	if strings.HasPrefix(rest, "[:") {
		m := colonForm.FindStringSubmatch(rest)
		if m == nil {
			return nil, at, api.ErrEnd
		}
		l, e := class.Colon(m[1])
		if e != api.OK {
			return nil, at, api.ErrClass
		}
		return l, at + len(m[0]), api.OK
	}
	if setBegin.MatchString(rest) {
		l, n, e := modelSet(rest)
		return l, at + n, e
	}
	first, n, e := modelCharacter(rest)
	if e != api.OK {
		return nil, at, e
	}
	end := at + n
	if end+1 >= len(s) || s[end] != '-' || s[end+1] == ']' {
		return of(first, first), end, api.OK
	}
	at2 := end + 1
	if setBegin.MatchString(s[at2:]) {
		return nil, at2, api.ErrClass
	}
	second, n, e := modelCharacter(s[at2:])
	if e != api.OK {
		return nil, at2, e
	}
	if second < first {
		return nil, at, api.ErrClass
	}
	return of(first, second), at2 + n, api.OK
}

// modelBracket is Bracket by its definition.
func modelBracket(s string, flags int) (list, int, api.Code) {
	if s == "" || s[0] != '[' {
		return nil, 0, api.ErrForm
	}
	body := 1
	if strings.HasPrefix(s, "[^") {
		body = 2
	}
	var items list
	for at := body; ; {
		if at == len(s) {
			return nil, at, api.ErrEnd
		}
		if s[at] == ']' && at > body {
			l := ranges.Norm(items)
			if flags&1 == 1 {
				l = fold.Close(l)
			}
			if body == 2 {
				l = others(l)
			}
			return l, at + 1, api.OK
		}
		l, end, e := modelItem(s, at)
		if e != api.OK {
			return nil, end, e
		}
		items = append(items, l...)
		at = end
	}
}

// likeTheModel demands of all functions what the models return for s.
func likeTheModel(t *testing.T, s string) {
	t.Helper()
	r, n, e := modelNumber(s)
	number(t, s, r, n, e)
	l, n, e := modelSet(s)
	if e == api.OK {
		set(t, s, l, n)
	} else {
		noSet(t, s, e)
	}
	for _, flags := range []int{0, api.FFold} {
		l, n, e := modelBracket(s, flags)
		if e == api.OK {
			parsed(t, s, flags, l, n)
		} else {
			refused(t, s, flags, n, e)
		}
	}
}

// each visits all strings of up to that many bytes of an alphabet, each of them behind front.
func each(front, alphabet string, most int, visit func(s string)) {
	visit(front)
	if most == 0 {
		return
	}
	for i := range len(alphabet) {
		each(front+alphabet[i:i+1], alphabet, most-1, visit)
	}
}

func TestShortBracketsAreThoseOfTheModel(t *testing.T) {
	each("[", "][^-:\\adz", 6, func(s string) { likeTheModel(t, s) })
}

func TestShortEscapesAreThoseOfTheModel(t *testing.T) {
	each("", "\\x{}1aF", 6, func(s string) { likeTheModel(t, s) })
	each("\\", "pP{}L^ud]", 5, func(s string) { likeTheModel(t, s) })
	each("[\\", "x{}1F-]", 5, func(s string) { likeTheModel(t, s) })
	each("[", "\xC3\xA9\xED\xA0\xF0\x9F-]", 4, func(s string) { likeTheModel(t, s) })
}

func TestStringsOfTwoBytesAreThoseOfTheModel(t *testing.T) {
	for i := range 256 {
		for j := range 256 {
			two := string([]byte{byte(i), byte(j)})
			for _, s := range []string{two, "[" + two, "[" + two + "]", "[a-" + two + "]", "[^" + two + "-\x7F]", "\\" + two} {
				r, n, e := modelNumber(s)
				number(t, s, r, n, e)
				l, n, e := modelBracket(s, 0)
				if e == api.OK {
					parsed(t, s, 0, l, n)
				} else {
					refused(t, s, 0, n, e)
				}
			}
		}
	}
}

// pieces are what bracket expressions are made of, and what spoils them.
var pieces = []string{
	"[:alpha:]", "[:^digit:]", "[:word:]", "[:nothing:]", "[::]", "[:", ":]", ":", "[", "]", "^", "-", "--",
	`\d`, `\W`, `\S`, `\pL`, `\PL`, `\p{Greek}`, `\P{^Lu}`, `\p`, `\P{`, `\p{x}`, `\p1`,
	`\x41`, `\x5A`, `\x4`, `\x`, `\x{1F600}`, `\x{110000}`, `\x{D800}`, `\x{`, `\x{}`, `\q`, `\ `, `\n`, `\v`, `\]`, `\-`, `\\`, `\`, `\^`, `\[`,
	"a", "z", "k", "K", "0", "A", "{", "}", "p", "x", "\x00", "\x7F", "\u00E9", "\u212A", "\u03C3", "\uFFFD", "\U0001F600", "\U0010FFFF",
	"\xFF", "\xC3", "\xED\xA0\x80", "\x80",
}

func TestBracketsOfPiecesAreThoseOfTheModel(t *testing.T) {
	for _, front := range []string{"[", "[^"} {
		for _, x := range pieces {
			for _, y := range pieces {
				likeTheModel(t, front+x+y)
				likeTheModel(t, front+x+y+"]")
				likeTheModel(t, front+x+"-"+y+"]")
			}
		}
	}
	random := rand.New(rand.NewPCG(7, 3))
	for range 100_000 {
		s := "["
		for range 1 + random.IntN(10) {
			s += pieces[random.IntN(len(pieces))]
		}
		likeTheModel(t, s+"]")
	}
}

// longOnes has in it all that a bracket expression may have.
var longOnes = []string{
	"[^]-a\u00E9-\u20AC\\x41-\\x{1F600}\\p{Greek}\\P{^Lu}\\pL\\d[:^alpha:][-\\]\\n\U0001F600-]",
	"[\\x{00002b}--/[:digit:]-\\W--0[-^a^\u0416\\PL-]",
}

func TestBracketEndsAfterAnyByte(t *testing.T) {
	for _, s := range longOnes {
		for n := range len(s) {
			if _, _, e := bracket.Bracket(s[:n], 0); e == api.OK {
				t.Errorf("Bracket(%q) is no error", s[:n])
			}
			likeTheModel(t, s[:n])
			for i := range 256 {
				spoiled := []byte(s)
				spoiled[n] = byte(i)
				likeTheModel(t, string(spoiled))
				likeTheModel(t, s[:n]+string([]byte{byte(i)})+s[n:])
			}
		}
		if _, n, e := bracket.Bracket(s, 0); n != len(s) || e != api.OK {
			t.Errorf("Bracket(%q): %d, %d", s, n, e)
		}
	}
}

// library returns the list of a pattern that is a bracket expression in Go's own regular expressions, and whether it is one.
func library(s string) (list, bool) {
	re, err := syntax.Parse(s, syntax.Perl)
	if err != nil {
		return nil, false
	}
	switch re.Op {
	case syntax.OpLiteral:
		return of(int(re.Rune[0]), int(re.Rune[0])), len(re.Rune) == 1
	case syntax.OpAnyChar:
		return all, true
	case syntax.OpAnyCharNotNL:
		return others(of(0xA, 0xA)), true
	case syntax.OpNoMatch:
		return nil, true
	case syntax.OpCharClass:
		var l list
		for i := 0; i < len(re.Rune); i += 2 {
			l = append(l, api.Range{Lo: int(re.Rune[i]), Hi: int(re.Rune[i+1])})
		}
		return l, true
	}
	return nil, false
}

func TestBracketsAreThoseOfTheLibrary(t *testing.T) {
	visit := func(s string) {
		// To the library a [: without :] is two characters.
		if strings.Contains(s, "[:") {
			return
		}
		got, n, e := bracket.Bracket(s, 0)
		if e != api.OK {
			if _, accepts := library(s); accepts {
				t.Errorf("Bracket(%q): %d at %d, but the library accepts it", s, e, n)
			}
			return
		}
		if want, accepts := library(s[:n]); !accepts || !slices.Equal(got, want) {
			t.Errorf("Bracket(%q) = %X, %d, want %X, as in the library", s, got, n, want)
		}
	}
	each("[", "][^-:\\adz", 5, visit)
	each("[a", "]-\\dsn", 6, visit)
	each("[\\x{", "1F}-]\\x", 5, visit)
	for _, s := range []string{"[[:alpha:]-z]", "[[:^alpha:]a-z]", "[^[:digit:][:punct:]]", "[[:word:]--0]", "[\\d-\\D]", "[\\S\\W]", "[^\\s]", "[\u00E9-\u20AC\U0001F600]", "[^\u00E9]"} {
		visitWhole(t, s)
	}
}

// visitWhole demands the library's list of a whole bracket expression.
func visitWhole(t *testing.T, s string) {
	t.Helper()
	want, accepts := library(s)
	if !accepts {
		t.Fatalf("the library refuses %q", s)
	}
	parsed(t, s, 0, want, len(s))
}
