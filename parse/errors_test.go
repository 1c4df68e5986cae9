package parse_test

import (
	"strings"
	"testing"

	"burin/api"
	"burin/lex"
)

// refusal is an error of Parse and its offset.
type refusal struct {
	at int
	e  api.Code
}

// refusals are what is no pattern, with any flags.
var refusals = map[string]refusal{
	// the document's examples
	"a**": {2, api.ErrNothing}, "(a": {2, api.ErrEnd},

	// a repetition at the front, behind a bar, behind an opening parenthesis
	"*": {0, api.ErrNothing}, "+": {0, api.ErrNothing}, "?": {0, api.ErrNothing}, "{2}": {0, api.ErrNothing}, "{2,}?": {0, api.ErrNothing}, "*?": {0, api.ErrNothing}, "{0,1}a": {0, api.ErrNothing}, "*a": {0, api.ErrNothing},
	"|*": {1, api.ErrNothing}, "a|*": {2, api.ErrNothing}, "a|b|+": {4, api.ErrNothing}, "a*|*": {3, api.ErrNothing}, "||?": {2, api.ErrNothing}, "(a)|{2}": {4, api.ErrNothing}, "\u00E9|*": {3, api.ErrNothing},
	"(*": {1, api.ErrNothing}, "(*)": {1, api.ErrNothing}, "(?:*)": {3, api.ErrNothing}, "(?i:+)": {4, api.ErrNothing}, "(?P<x>?)": {6, api.ErrNothing}, "(?<x>{2})": {5, api.ErrNothing}, "a(*b)": {2, api.ErrNothing}, "((*))": {2, api.ErrNothing}, "(a|*)": {3, api.ErrNothing}, "(|?b)": {2, api.ErrNothing}, "(a)(*)": {4, api.ErrNothing},
	// behind flags
	"(?i)*": {4, api.ErrNothing}, "a(?i)*": {5, api.ErrNothing}, "a(?i)(?s)+": {9, api.ErrNothing}, "a(?-i){2}": {6, api.ErrNothing}, "(a(?U)?)": {6, api.ErrNothing}, "(a)(?i)*": {7, api.ErrNothing}, "a*(?i)*": {6, api.ErrNothing}, "|(?i)*": {5, api.ErrNothing}, "((?i)*)": {5, api.ErrNothing}, `(?i)\Q\E*`: {8, api.ErrNothing}, `a\Q\E(?i)*`: {9, api.ErrNothing},
	// behind a repetition
	"a*+": {2, api.ErrNothing}, "a+*": {2, api.ErrNothing}, "a???": {3, api.ErrNothing}, "a*??": {3, api.ErrNothing}, "a*?*": {3, api.ErrNothing}, "a{2}{3}": {4, api.ErrNothing}, "a{2}?{3}": {5, api.ErrNothing}, "a{2,}*?": {5, api.ErrNothing}, "ab**": {3, api.ErrNothing}, "a*b**": {4, api.ErrNothing}, "(a)**": {4, api.ErrNothing}, "(?:a)*{2}": {6, api.ErrNothing}, "(a*)**": {5, api.ErrNothing}, "(a**)": {3, api.ErrNothing}, "()+*": {3, api.ErrNothing},
	"^**": {2, api.ErrNothing}, "$*+": {2, api.ErrNothing}, ".{1}{1}": {4, api.ErrNothing}, `\C**`: {3, api.ErrNothing}, `\d+?+`: {4, api.ErrNothing}, `\b?*`: {3, api.ErrNothing}, "[a]**": {4, api.ErrNothing}, "\u00E9**": {3, api.ErrNothing}, `\P{Any}**`: {8, api.ErrNothing}, `\*{2}{2}`: {5, api.ErrNothing}, `\Qa*\E**`: {7, api.ErrNothing}, `a*\Q\E*`: {6, api.ErrNothing},
	// behind nothing but a quotation of nothing
	`\Q\E*`: {4, api.ErrNothing}, `(\Q\E*)`: {5, api.ErrNothing}, `|\Q\E\Q\E?`: {9, api.ErrNothing},

	// a closing parenthesis too many
	")": {0, api.ErrGroup}, "a)": {1, api.ErrGroup}, "())": {2, api.ErrGroup}, "(a))": {3, api.ErrGroup}, "a|b)": {3, api.ErrGroup}, "|)": {1, api.ErrGroup}, "(?:a))": {5, api.ErrGroup}, ")(": {0, api.ErrGroup}, "(?i))": {4, api.ErrGroup}, "(?i:))": {5, api.ErrGroup}, "(a)|b)c": {5, api.ErrGroup}, "))": {0, api.ErrGroup}, "((a))))": {5, api.ErrGroup}, `\Q)\E)`: {5, api.ErrGroup}, `\))`: {2, api.ErrGroup}, "[)])": {3, api.ErrGroup}, ")*": {0, api.ErrGroup}, ")a": {0, api.ErrGroup}, "\u00E9)": {2, api.ErrGroup}, "a*)": {2, api.ErrGroup}, "(a)*)": {4, api.ErrGroup}, "(?P<x>)(?<y>))": {13, api.ErrGroup}, "(a))(": {3, api.ErrGroup},

	// an opening parenthesis without its end
	"(": {1, api.ErrEnd}, "((": {2, api.ErrEnd}, "((a)": {4, api.ErrEnd}, "a(": {2, api.ErrEnd}, "()(": {3, api.ErrEnd}, "(?:": {3, api.ErrEnd}, "(?:a": {4, api.ErrEnd}, "(?i:a": {5, api.ErrEnd}, "(?P<x>a|b": {9, api.ErrEnd}, "(?<x>": {5, api.ErrEnd}, "(a|": {3, api.ErrEnd}, "(|": {2, api.ErrEnd}, "a(b(c": {5, api.ErrEnd}, "(a(b)c": {6, api.ErrEnd}, "(?i)(": {5, api.ErrEnd}, "((?i)": {5, api.ErrEnd}, "(a*": {3, api.ErrEnd}, `(\)`: {3, api.ErrEnd}, "([)]": {4, api.ErrEnd}, `(\Q)`: {4, api.ErrEnd}, `(\Q)\E`: {6, api.ErrEnd}, "(\u00E9": {3, api.ErrEnd}, "a|(b|c": {6, api.ErrEnd}, "(()*": {4, api.ErrEnd}, `(\Q`: {3, api.ErrEnd},

	// the first of several errors
	"*)": {0, api.ErrNothing}, "a**)": {2, api.ErrNothing}, "(a**": {3, api.ErrNothing}, "(a|*": {3, api.ErrNothing}, "(()**": {4, api.ErrNothing}, "(a))**": {3, api.ErrGroup}, "a)*": {1, api.ErrGroup}, "a)b**": {1, api.ErrGroup}, "a**b**": {2, api.ErrNothing}, "(*)*)": {1, api.ErrNothing}, "))**": {0, api.ErrGroup}, "((a)**": {5, api.ErrNothing}, "*(": {0, api.ErrNothing}, "(?i)*)(": {4, api.ErrNothing}, "a|*)": {2, api.ErrNothing}, "a)|*": {1, api.ErrGroup},
	"(?P<x>)(?P<x>)**": {15, api.ErrNothing}, "(?P<x>)(?P<x>))": {14, api.ErrGroup}, "(?P<x>)(?P<x>)(": {15, api.ErrEnd}, "(?P<x>(?P<x>)": {13, api.ErrEnd},

	// the errors of Lex come first
	`\q`: {0, api.ErrEscape}, "\xFF": {0, api.ErrForm}, "[": {1, api.ErrEnd}, "(?": {0, api.ErrGroup}, "a{2,1}": {1, api.ErrRepeat}, `\pZ`: {0, api.ErrClass}, "[b-a]": {1, api.ErrClass}, `\`: {0, api.ErrEnd}, `\x4`: {0, api.ErrEnd}, "(?x)": {0, api.ErrGroup}, "(?P<1>)": {0, api.ErrGroup},
	`**\q`: {2, api.ErrEscape}, ")\xFF": {1, api.ErrForm}, "(a{2,1}": {2, api.ErrRepeat}, "*[b-a]": {2, api.ErrClass}, "))(?x)": {2, api.ErrGroup}, `(*)\`: {3, api.ErrEnd}, `*a*)\pZ`: {4, api.ErrClass}, "a**[[:x:]]": {4, api.ErrClass}, "*\\Q\xFF": {3, api.ErrForm}, "(((\x80": {3, api.ErrForm}, "(?P<x>)(?P<x>)[": {15, api.ErrEnd}, "*{1001}": {1, api.ErrRepeat},

	// the error of Check for the tree
	"(?P<x>)(?P<x>)": {0, api.ErrThere}, "(?<x>a)|(?P<x>b)": {0, api.ErrThere}, "((?P<x>(?P<y>)(?P<x>)))": {0, api.ErrThere}, "(?P<x>(?<x>))": {0, api.ErrThere}, "(?:(?P<x>)*)(a)(?i:(?<x>))": {0, api.ErrThere},
}

func TestRefused(t *testing.T) {
	for s, want := range refusals {
		for flags := range 16 {
			refused(t, s, flags, want.at, want.e)
		}
		refused(t, s, -1, want.at, want.e)
	}
}

// An error has the same place behind what is complete, and nothing is demanded of what follows it.
func TestRefusedBehindOthers(t *testing.T) {
	for s, want := range refusals {
		at := func(front string) int {
			if want.e == api.ErrThere {
				return 0 // as all errors of Check
			}
			return len(front) + want.at
		}
		for _, front := range []string{"a", "\u00E9*", "a|", "(b)", "(?:b|c)+?", `[)]\(`, "(?i)b(?-i)c", `\Q(*\E`, "(?P<z>()|(?i)d)"} {
			if strings.HasSuffix(front, "|") || !isRepetition(s) {
				refused(t, front+s, 0, at(front), want.e)
			}
		}
		if want.e == api.ErrNothing {
			for _, tail := range []string{"a", ")", "(", "|", "*", "**", "(?i)", "(?P<x>)(?P<x>)", "[]]"} {
				refused(t, s+"b"+tail, 0, want.at, want.e)
			}
		}
		if _, _, e := lex.Lex(s); e == api.OK && want.e == api.ErrGroup {
			for _, tail := range []string{"a", ")", "(", "|", "*", "**", "(?i)", "(?P<x>)(?P<x>)", "[]]"} {
				refused(t, s+tail, 0, want.at, want.e)
			}
		}
	}
}

// isRepetition reports whether s begins with a repetition, so that something in front of it may be what is repeated.
func isRepetition(s string) bool {
	l, _, _ := lex.Lex(s)
	return len(l) > 0 && l[0].Kind == api.TRepeat || strings.HasPrefix(s, `\Q\E`) || strings.IndexAny(s, "*+?{") == 0
}

// groups are that many groups, one behind the other.
func groups(many int) string { return strings.Repeat("()", many) }

func TestTooManyGroups(t *testing.T) {
	const most = 31 // what 64 slots are enough for
	var subs []node
	for i := range most {
		subs = append(subs, group(i+1, empty()))
	}
	parsed(t, groups(most), 0, cat(subs...))
	parsed(t, strings.Repeat("(", most)+strings.Repeat(")", most), 0, within(most, empty()))
	refused(t, groups(most+1), 0, 0, api.ErrLong)
	refused(t, groups(most+2), 0, 0, api.ErrLong)
	refused(t, groups(most)+"|(?i:a(b))", 0, 0, api.ErrLong)
	refused(t, strings.Repeat("(", most+1)+strings.Repeat(")", most+1), 0, 0, api.ErrLong)
	refused(t, groups(2048), 0, 0, api.ErrLong)
	// Groups that do not capture do not count.
	parsed(t, strings.Repeat("(?:a)", 33)+"(b)", 0, cat(append(many(33, one('a')), group(1, one('b')))...))

	// the first error of Check, and those that come ahead of it
	refused(t, "(?P<x>)(?P<x>)"+groups(most), 0, 0, api.ErrThere)
	refused(t, "(?P<x>)"+groups(most)+"(?P<x>)", 0, 0, api.ErrLong)
	refused(t, "(?P<x>)"+groups(most-1)+"(?P<x>)", 0, 0, api.ErrLong)
	refused(t, "(?P<x>)"+groups(most-2)+"(?P<x>)", 0, 0, api.ErrThere)
	refused(t, groups(most+1)+"**", 0, 2*most+3, api.ErrNothing)
	refused(t, groups(most+1)+")", 0, 2*most+2, api.ErrGroup)
	refused(t, groups(most+1)+"(", 0, 2*most+3, api.ErrEnd)
	refused(t, groups(most+1)+`\q`, 0, 2*most+2, api.ErrEscape)
}

// many is a list of equal nodes.
func many(times int, n node) []node {
	var out []node
	for range times {
		out = append(out, n)
	}
	return out
}

// within is a tree under that many groups.
func within(levels int, n node) node {
	for num := levels; num > 0; num-- {
		n = group(num, n)
	}
	return n
}

// nested is a pattern of that many levels, of which each is two nodes deep, around inner; and the same of its tree.
func nested(levels int, inner string, n node) (string, node) {
	s := strings.Repeat("(?:b", levels) + inner + strings.Repeat(")*", levels)
	for range levels {
		n = star(cat(one('b'), n))
	}
	return s, n
}

func TestTreesAsDeepAsMayBe(t *testing.T) {
	s, n := nested(499, "a", one('a')) // 999 deep
	parsed(t, s, 0, n)
	parsed(t, "("+s+")", 0, group(1, n))
	parsed(t, s+"|", 0, alt(n, empty()))
	parsed(t, "(?:"+s+")+", 0, repeat(1, -1, n))
	parsed(t, "(?:"+s+")", 0, n)
	refused(t, "("+s+"|)", 0, 0, api.ErrDeep)
	refused(t, "(?:("+s+"))*", 0, 0, api.ErrDeep)
	refused(t, "((?:"+s+")?)", 0, 0, api.ErrDeep)

	s, n = nested(499, "(?:aa)", cat(one('a'), one('a'))) // 1000 deep
	parsed(t, s, 0, n)
	parsed(t, "(?:(?:"+s+"))", 0, n)
	refused(t, "("+s+")", 0, 0, api.ErrDeep)
	refused(t, s+"|", 0, 0, api.ErrDeep)
	refused(t, "a"+s, 0, 0, api.ErrDeep)
	refused(t, "(?:"+s+")?", 0, 0, api.ErrDeep)

	s, _ = nested(500, "a", one('a')) // 1001 deep
	refused(t, s, 0, 0, api.ErrDeep)
	s, _ = nested(680, "a", one('a'))
	refused(t, s, 15, 0, api.ErrDeep)

	// ErrDeep comes ahead of the other errors of Check, and behind those that are seen earlier.
	s, _ = nested(500, "(?P<x>)(?P<x>)", one('a'))
	refused(t, s, 0, 0, api.ErrDeep)
	s, _ = nested(500, groups(32), one('a'))
	refused(t, s, 0, 0, api.ErrDeep)
	s, _ = nested(500, "**", one('a'))
	refused(t, s, 0, 500*len("(?:b")+1, api.ErrNothing)
	s, _ = nested(500, "a", one('a'))
	refused(t, s+")", 0, len(s), api.ErrGroup)
	refused(t, s+"(", 0, len(s)+1, api.ErrEnd)
	refused(t, s+"[", 0, len(s)+1, api.ErrEnd)
	// What is not as deep has these others.
	s, _ = nested(498, "(?P<x>)(?P<x>)", one('a'))
	refused(t, s, 0, 0, api.ErrThere)
	s, _ = nested(498, groups(32), one('a'))
	refused(t, s, 0, 0, api.ErrLong)
}

const longest = api.MaxPattern

func TestLongestPatterns(t *testing.T) {
	twice := func(n int, s string) string { return strings.Repeat(s, n) }
	parsed(t, twice(longest, "a"), 0, cat(many(longest, one('a'))...))
	parsed(t, twice(longest, "k"), 15, cat(many(longest, letter('k'))...))
	parsed(t, twice(longest, "|"), 0, alt(many(longest+1, empty())...))
	parsed(t, twice(longest/2, "a*"), 0, cat(many(longest/2, star(one('a')))...))
	parsed(t, twice(longest/2, "a|"), 0, alt(append(many(longest/2, one('a')), empty())...))
	parsed(t, twice(longest/2, `\C`), 3, cat(many(longest/2, anyByte())...))
	parsed(t, twice(longest, "."), 0, cat(many(longest, noLine())...))
	parsed(t, twice(longest/4, `(?i)`), 0, empty())
	parsed(t, twice(longest/4, `\Q\E`), 0, empty())
	parsed(t, twice(longest/4, "(?:)"), 0, cat(many(longest/4, empty())...))
	parsed(t, "["+twice(longest-2, "s")+"]", 1, letter('s'))
	parsed(t, `\Q`+twice(longest-2, "*"), 0, cat(many(longest-2, one('*'))...))
	// nested as deeply as can be
	parsed(t, twice(longest/4, "(?:")+twice(longest/4, ")"), 0, empty())
	parsed(t, twice(longest/4-1, "(?:")+"ab|"+twice(longest/4-1, ")")+"*", 0, star(alt(cat(one('a'), one('b')), empty())))
	parsed(t, twice(584, "(?i:")+"a"+twice(584, ")"), 0, letter('a'))
	parsed(t, twice(292, "(?i:(?-i:")+"a"+twice(584, ")"), 1, one('a'))
	refused(t, twice(longest/2, "(")+twice(longest/2, ")"), 0, 0, api.ErrDeep)
	refused(t, twice(longest/2-1, "(")+twice(longest/2-1, ")")+"*", 0, 0, api.ErrDeep)
	refused(t, twice(longest/3, "(")+twice(longest/3, ")*"), 0, 0, api.ErrDeep)
	refused(t, twice(longest/2, "(")+twice(longest/2-1, ")")+"a", 0, longest, api.ErrEnd)
	refused(t, twice(longest/2-1, "(")+twice(longest/2+1, ")"), 0, longest-2, api.ErrGroup)
	refused(t, twice(longest, "("), 0, longest, api.ErrEnd)
	refused(t, twice(longest, ")"), 0, 0, api.ErrGroup)
	refused(t, twice(longest, "*"), 0, 0, api.ErrNothing)
	refused(t, twice(longest-1, "(")+"*", 0, longest-1, api.ErrNothing)
	refused(t, twice(longest/2, "(|"), 0, longest, api.ErrEnd)
	refused(t, twice(longest-1, "a")+")", 0, longest-1, api.ErrGroup)
	refused(t, twice(longest-2, "a")+"**", 0, longest-1, api.ErrNothing)
}

func TestTooLongPatterns(t *testing.T) {
	for _, s := range []string{"a", "*", "(", ")", "|", "\xFF", "[", "(?", `\`, "a**", `\q`} {
		refused(t, strings.Repeat(s, longest/len(s)+1), 0, 0, api.ErrLong)
		refused(t, strings.Repeat(s, 2*longest), 15, 0, api.ErrLong)
	}
}
