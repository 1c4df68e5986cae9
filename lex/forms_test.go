package lex_test

import (
	"fmt"
	"maps"
	"regexp"
	"regexp/syntax"
	"slices"
	"strings"
	"testing"

	"burin/api"
	"burin/lex"
)

// repetitions are the forms of a repetition without a ? at the end, and their bounds.
var repetitions = map[string][2]int{
	"*": {0, -1}, "+": {1, -1}, "?": {0, 1},
	"{0}": {0, 0}, "{1}": {1, 1}, "{2}": {2, 2}, "{9}": {9, 9}, "{10}": {10, 10}, "{99}": {99, 99}, "{100}": {100, 100}, "{999}": {999, 999}, "{1000}": {1000, 1000},
	"{00}": {0, 0}, "{0000}": {0, 0}, "{0001}": {1, 1}, "{01}": {1, 1}, "{007}": {7, 7}, "{0100}": {100, 100}, "{0999}": {999, 999}, "{08}": {8, 8}, "{010}": {10, 10},
	"{0,}": {0, -1}, "{1,}": {1, -1}, "{12,}": {12, -1}, "{0012,}": {12, -1}, "{1000,}": {1000, -1}, "{0000,}": {0, -1},
	"{0,0}": {0, 0}, "{0,1}": {0, 1}, "{1,1}": {1, 1}, "{2,3}": {2, 3}, "{3,12}": {3, 12}, "{0003,012}": {3, 12}, "{0,1000}": {0, 1000}, "{1000,1000}": {1000, 1000}, "{999,1000}": {999, 1000}, "{10,9}": {10, 9}, "{2,0002}": {2, 2}, "{0000,0000}": {0, 0},
	// beyond the bounds
	"{1001}": {1001, 1001}, "{1001,}": {1001, -1}, "{0,1001}": {0, 1001}, "{1000,1001}": {1000, 1001}, "{1001,1001}": {1001, 1001}, "{1001,1000}": {1001, 1000}, "{9999}": {9999, 9999}, "{9999,}": {9999, -1}, "{9999,9999}": {9999, 9999}, "{1,9999}": {1, 9999}, "{9999,0}": {9999, 0},
	"{1,0}": {1, 0}, "{2,1}": {2, 1}, "{1000,999}": {1000, 999}, "{0002,1}": {2, 1}, "{2,0001}": {2, 1}, "{1000,0}": {1000, 0},
}

// isError reports whether a repetition with these bounds is an error.
func isError(low, high int) bool { return low > 1000 || high > 1000 || high != -1 && high < low }

func TestRepetitions(t *testing.T) {
	for s, b := range repetitions {
		low, high, n := b[0], b[1], len(s)
		if isError(low, high) {
			for _, tail := range []string{"", "?", "a", "\xFF", "*", "}", "{", `\q`} {
				refused(t, s+tail, 0, api.ErrRepeat)
				refused(t, "a\u00E9*"+s+tail, 4, api.ErrRepeat)
				refused(t, "("+s+tail, 1, api.ErrRepeat)
			}
			continue
		}
		lexed(t, s, repeat(0, low, high))
		lexed(t, s+"?", lazy(0, low, high))
		lexed(t, s+"??", lazy(0, low, high), repeat(n+1, 0, 1))
		lexed(t, s+"???", lazy(0, low, high), lazy(n+1, 0, 1))
		lexed(t, s+"*?", repeat(0, low, high), lazy(n, 0, -1))
		lexed(t, s+"+", repeat(0, low, high), repeat(n, 1, -1))
		lexed(t, s+" ?", repeat(0, low, high), one(n, ' '), repeat(n+1, 0, 1))
		lexed(t, s+`\Q\E?`, repeat(0, low, high), repeat(n+4, 0, 1))
		lexed(t, s+`\?`, repeat(0, low, high), one(n, '?'))
		lexed(t, s+"{2}?", repeat(0, low, high), lazy(n, 2, 2))
		lexed(t, s+"?{2}?", lazy(0, low, high), lazy(n+1, 2, 2))
		lexed(t, "\u00E9"+s+"b", one(0, 0xE9), repeat(2, low, high), one(n+2, 'b'))
		lexed(t, "(a|"+s+"?)", group(0, ""), one(1, 'a'), bar(2), lazy(3, low, high), closing(n+4))
		lexed(t, "["+s+"]", brackets(0, "["+s+"]"))
		lexed(t, `\Q`+s+`?\E`, ones(2, s+"?")...)
	}
}

// Every number of one to four digits, in every place.
func TestNumbersOfRepetitions(t *testing.T) {
	visit := func(s string, low, high int) {
		if isError(low, high) {
			refused(t, "a"+s, 1, api.ErrRepeat)
		} else {
			lexed(t, "a"+s, one(0, 'a'), repeat(1, low, high))
		}
	}
	for n := range 10_000 {
		for _, format := range []string{"%d", "%02d", "%03d", "%04d"} {
			s := fmt.Sprintf(format, n)
			visit("{"+s+"}", n, n)
			visit("{"+s+",}", n, -1)
			visit("{0,"+s+"}", 0, n)
			visit("{37,"+s+"}", 37, n)
			visit("{"+s+",37}", n, 37)
			visit("{"+s+",0100}", n, 100)
		}
		five := fmt.Sprintf("{%05d}", n)
		lexed(t, five, ones(0, five)...)
	}
}

func TestANumberWithAnyByte(t *testing.T) {
	for i := range 256 {
		c := string([]byte{byte(i)})
		for _, s := range []string{"{" + c + "}", "{1" + c + "}", "{" + c + "1}", "{1," + c + "}", "{1,2" + c + "}", "{1" + c + "2}", "{1}" + c} {
			likeTheModel(t, s)
			if i >= 0x80 {
				refused(t, s, strings.IndexByte(s, byte(i)), api.ErrForm)
			}
		}
	}
}

// names are names of groups, by chapter 6.
var names = []string{"x", "X", "_", "a1", "_1", "A_b_9", "P", "i", "Zz", "__", strings.Repeat("n", api.MaxName), "_" + strings.Repeat("9", api.MaxName-1)}

// noNames are none.
var noNames = []string{
	"", "1", "9a", "a b", " a", "a ", "a-b", "-", "a.", "\u00E9", "a\u00E9", "\x00", "a\x00", "\xFF", "a\xFF", "<", "a<", "<a", "a:", "a)", ")", ":", "(", "a=", "=", "!", `\a`, `\x41`, "a]", "[a", "?", "a?",
	strings.Repeat("n", api.MaxName+1), strings.Repeat("n", 1000), "\uFF41",
}

func TestGroupsWithNames(t *testing.T) {
	for _, name := range names {
		for _, front := range []string{"(?P<", "(?<"} {
			s := front + name + ">"
			n := len(s)
			lexed(t, s, group(0, name))
			lexed(t, s+"a)", group(0, name), one(n, 'a'), closing(n+1))
			lexed(t, "\u00E9"+s+">", one(0, 0xE9), group(2, name), one(n+2, '>'))
			lexed(t, s+s, group(0, name), group(n, name)) // two of one name are not the lexer's matter
			lexed(t, s+"?", group(0, name), repeat(n, 0, 1))
			lexed(t, `\`+s[:2]+"a", one(0, '('), repeat(2, 0, 1), one(3, 'a'))
			refused(t, s[:n-1], 0, api.ErrGroup)
			refused(t, "ab"+s[:n-1]+")", 2, api.ErrGroup)
			refused(t, s[:n-1]+" >", 0, api.ErrGroup)
			refused(t, s[:n-1]+":", 0, api.ErrGroup)
			refused(t, s+s[:n-1]+"\xFF", n, api.ErrGroup)
		}
		for _, front := range []string{"(?P=", "(?P", "(?p<", "(?P>", "(?=", "(?!", "(?'", "(?<=", "(?<!", "(?PP<", "(?P <", "(? P<", "(?P<<", "(?-P<", "(?iP<", "(?>", "(??<"} {
			refused(t, front+name+">", 0, api.ErrGroup)
			refused(t, front+name+">a)", 0, api.ErrGroup)
		}
		lexed(t, "( ?P<"+name+">", all([]token{group(0, ""), one(1, ' '), repeat(2, 0, 1)}, ones(3, "P<"+name+">"))...)
	}
	for _, name := range noNames {
		for _, front := range []string{"(?P<", "(?<"} {
			refused(t, front+name+">", 0, api.ErrGroup)
			refused(t, front+name+">a)", 0, api.ErrGroup)
			refused(t, "\u00E9("+front+name+">>)", 3, api.ErrGroup)
			refused(t, front+name, 0, api.ErrGroup)
		}
	}
}

func TestNamesOfAnyByte(t *testing.T) {
	for i := range 256 {
		c := string([]byte{byte(i)})
		first := i == '_' || 'A' <= i && i <= 'Z' || 'a' <= i && i <= 'z'
		for _, front := range []string{"(?P<", "(?<"} {
			if first {
				lexed(t, front+c+">", group(0, c))
			} else {
				refused(t, front+c+">", 0, api.ErrGroup)
			}
			switch {
			case first || '0' <= i && i <= '9':
				lexed(t, front+"n"+c+">", group(0, "n"+c))
				lexed(t, front+"n"+c+"m>", group(0, "n"+c+"m"))
			case c == ">":
				lexed(t, front+"n"+c+"m>", group(0, "n"), one(len(front)+2, 'm'), one(len(front)+3, '>'))
			default:
				refused(t, front+"n"+c+">", 0, api.ErrGroup)
				refused(t, front+"n"+c+"m>", 0, api.ErrGroup)
			}
		}
	}
}

func TestGroupsOfAnyByte(t *testing.T) {
	for i := range 256 {
		c := string([]byte{byte(i)})
		for _, tail := range []string{"", "a", ")", ":", ">", "?"} {
			s := "a(?" + c + tail
			letter := map[string]int{"i": 1, "m": 2, "s": 4, "U": 8}[c]
			switch {
			case c == ":" && tail == "":
				lexed(t, s, one(0, 'a'), open(1, 0, 0))
			case c == ":":
				likeTheModel(t, s)
			case letter > 0 && tail == ":":
				lexed(t, s, one(0, 'a'), open(1, letter, 0))
			case letter > 0 && tail == ")":
				lexed(t, s, one(0, 'a'), flags(1, letter, 0))
			default:
				refused(t, s, 1, api.ErrGroup)
			}
		}
	}
	refused(t, "(?", 0, api.ErrGroup)
	refused(t, "a((?", 2, api.ErrGroup)
}

// flagTexts are flags as they may be written, with what they set and what they clear.
var flagTexts = map[string][2]int{
	"i": {1, 0}, "m": {2, 0}, "s": {4, 0}, "U": {8, 0}, "im": {3, 0}, "mi": {3, 0}, "imsU": {15, 0}, "Usmi": {15, 0}, "sU": {12, 0},
	"-i": {0, 1}, "-m": {0, 2}, "-s": {0, 4}, "-U": {0, 8}, "-imsU": {0, 15}, "-Us": {0, 12},
	"i-m": {1, 2}, "is-mU": {5, 10}, "U-i": {8, 1}, "ims-U": {7, 8},
	// on both sides of -, which only clears
	"i-i": {0, 1}, "im-i": {2, 1}, "i-im": {0, 3}, "imsU-imsU": {0, 15}, "imsU-m": {13, 2}, "U-Ui": {0, 9},
	// twice
	"ii": {1, 0}, "iii": {1, 0}, "imi": {3, 0}, "-ii": {0, 1}, "ii-mm": {1, 2}, "ii-i": {0, 1}, "i-ii": {0, 1}, "ssss-sUsU": {0, 12},
}

// noFlags are none.
var noFlags = []string{"-", "i-", "imsU-", "--", "--i", "i--m", "i-m-s", "-i-", "-i-i", "i-m-", "x", "ix", "xi", "i-x", "i-mx", "-x", "I", "M", "S", "u", "iI", "i m", " i", "i ", "- i", "i -m", "i\u00E9", "\u00E9", "\xFF", "i\xFF", "i-\xFF", "i+m", "P", "<", "0", "^", "i,m", "i(", "i[", `\i`, "i\x00"}

func TestFlags(t *testing.T) {
	for s, f := range flagTexts {
		n := len(s) + 3
		lexed(t, "(?"+s+")", flags(0, f[0], f[1]))
		lexed(t, "(?"+s+":", open(0, f[0], f[1]))
		lexed(t, "(?"+s+"))", flags(0, f[0], f[1]), closing(n))
		lexed(t, "(?"+s+"::", open(0, f[0], f[1]), one(n, ':'))
		lexed(t, "(?"+s+":)", open(0, f[0], f[1]), closing(n))
		lexed(t, "(?"+s+"):", flags(0, f[0], f[1]), one(n, ':'))
		lexed(t, "a|(?"+s+")i", one(0, 'a'), bar(1), flags(2, f[0], f[1]), one(n+2, 'i'))
		lexed(t, "\u00E9(?"+s+":(?"+s+")?)", one(0, 0xE9), open(2, f[0], f[1]), flags(n+2, f[0], f[1]), repeat(2*n+2, 0, 1), closing(2*n+3))
		for _, tail := range []string{"", "a", "?", ">", "<", " ", " )", " :", "(", "\xFF", "\\)", "]", "*)", "|:", "=:", "\u00E9)"} {
			refused(t, "(?"+s+tail, 0, api.ErrGroup)
			refused(t, "a((?"+s+tail, 2, api.ErrGroup)
		}
	}
	for _, s := range noFlags {
		for _, tail := range []string{")", ":", "", "a)", "))"} {
			refused(t, "(?"+s+tail, 0, api.ErrGroup)
			refused(t, "\u00E9(?i)(?"+s+tail, 6, api.ErrGroup)
		}
	}
	refused(t, "(?)", 0, api.ErrGroup)
	refused(t, "a(?)", 1, api.ErrGroup)
	lexed(t, "(?:", open(0, 0, 0))
	lexed(t, "(?::i)", open(0, 0, 0), one(3, ':'), one(4, 'i'), closing(5))
}

// The library knows the same letters; it accepts no letter at all only before the parenthesis.
func TestFlagsAreThoseOfTheLibrary(t *testing.T) {
	each("", "imsU-x", 5, func(s string) {
		_, err := syntax.Parse("(?"+s+":a)", syntax.Perl)
		_, _, e := lex.Lex("(?" + s + ":a)")
		if (err == nil) != (e == api.OK) {
			t.Errorf("Lex((?%s:a)): %d, but the library: %v", s, int(e), err)
		}
	})
}

func TestQuotations(t *testing.T) {
	for s, want := range map[string][]token{
		`\Qa*\E`: ones(2, "a*"), `\Qa*`: ones(2, "a*"), `a\Q*\E*`: {one(0, 'a'), one(3, '*'), repeat(6, 0, -1)}, `\Q\E`: nil, `\Q`: nil, `a\Q`: {one(0, 'a')}, `a\Q\E`: {one(0, 'a')}, `\Q\Ea`: {one(4, 'a')},
		`\Q\E\Q\E`: nil, `\Q\E\Q`: nil, `\Qa\E\Qb\Ec`: {one(2, 'a'), one(7, 'b'), one(10, 'c')}, `\Qab\E?`: {one(2, 'a'), one(3, 'b'), repeat(6, 0, 1)},
		// a backslash within a quotation
		`\Q\`: {one(2, '\\')}, `\Q\\`: ones(2, `\\`), `\Q\\E`: {one(2, '\\')}, `\Q\\\E`: ones(2, `\\`), `\Q\d\E`: ones(2, `\d`), `\Q\Q\E`: ones(2, `\Q`), `\Q\Q\E.`: {one(2, '\\'), one(3, 'Q'), dot(6)}, `\Q\Qa`: ones(2, `\Qa`),
		`\Q\e\E`: ones(2, `\e`), `\Q\\Q\\E`: ones(2, `\\Q\`), `\Q\x{\pq\E`: ones(2, `\x{\pq`), `\Q\ \n`: ones(2, `\ \n`),
		// what would be something else
		`\Q(?P<1>[[:x{2,1}{1001}(?\E`: ones(2, `(?P<1>[[:x{2,1}{1001}(?`), `\Q.^$|)(]}{?+*`: ones(2, `.^$|)(]}{?+*`), `\Q{2}\E{2}`: {one(2, '{'), one(3, '2'), one(4, '}'), repeat(7, 2, 2)},
		`a{\Q2\E}`: {one(0, 'a'), one(1, '{'), one(4, '2'), one(7, '}')}, `(\Q?\E:`: {group(0, ""), one(3, '?'), one(6, ':')}, `a*\Q?\E`: {one(0, 'a'), repeat(1, 0, -1), one(4, '?')}, `E\QE\EE`: {one(0, 'E'), one(3, 'E'), one(6, 'E')},
		"\\Q\u00E9\U0001F600\x00\\E\u00E9": {one(2, 0xE9), one(4, 0x1F600), one(8, 0), one(11, 0xE9)}, "\\Q\uFFFD": {one(2, 0xFFFD)}, `\\Q\Q\\E\\E`: {one(0, '\\'), one(2, 'Q'), one(5, '\\'), one(8, '\\'), one(10, 'E')},
	} {
		lexed(t, s, want...)
	}
	for s, at := range map[string]int{
		"\\Q\xFF": 2, "\\Q\xFF\\E": 2, "\\Qa\xC3\\E": 3, "\\Qab\xC3": 4, "\\Q\u00E9\xA9\\E": 4, "\\Q\xED\xA0\x80\\E": 2, "\\Q\\\x80": 3, "\\Q\\E\xFF": 4, "a\\Qb\\E\\Q\xF4\x90\x80\x80\\E": 8, "\\Q\xC0\x80": 2, "\xFF\\Q\xFF": 0, "\\Q*\\E\\Q\xE2\x82\\E\xAC": 7,
	} {
		refused(t, s, at, api.ErrForm)
	}
	for s, at := range map[string]int{`\E`: 0, `a\E`: 1, `\E\Q`: 0, `\Q\E\E`: 4, `\Qa\E\E`: 5, `\Q\\E\E`: 5, `\\\E`: 2, `\Q\Q\E\E`: 6, `\e`: 0, `\q`: 0} {
		refused(t, s, at, api.ErrEscape)
	}
	refused(t, `[\Qa\E]`, 1, api.ErrEscape)
	refused(t, `[a\E]`, 2, api.ErrEscape)
}

// A quoted text is what its runes are, and the same as with a backslash before each sign.
func TestQuotedTexts(t *testing.T) {
	numbers := func(s string) []int {
		l, _, e := lex.Lex(s)
		var out []int
		for _, x := range l {
			if x.Kind != api.TRune || e != api.OK {
				t.Errorf("Lex(%q) = %v, %d", s, l, int(e))
			}
			out = append(out, x.Num)
		}
		return out
	}
	texts := append(slices.Collect(maps.Keys(accepted)), slices.Collect(maps.Keys(repetitions))...)
	each("", "\\QE*", 6, func(s string) { texts = append(texts, s) })
	for _, s := range texts {
		if strings.Contains(s, `\E`) {
			continue
		}
		var want []int
		for _, r := range s {
			want = append(want, int(r))
		}
		for _, quoted := range []string{`\Q` + s + `\E`, `\Q` + s, regexp.QuoteMeta(s), `\Q\E` + regexp.QuoteMeta(s) + `\Q`} {
			if got := numbers(quoted); !slices.Equal(got, want) {
				t.Errorf("Lex(%q) has the numbers %X, want %X", quoted, got, want)
			}
		}
	}
}
