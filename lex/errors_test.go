package lex_test

import (
	"testing"

	"burin/api"
)

// refusal is an error of Lex and its offset.
type refusal struct {
	at int
	e  api.Code
}

// refusals are what is no pattern.
var refusals = map[string]refusal{
	// bytes that are not the encoding of a rune
	"\xFF": {0, api.ErrForm}, "\x80": {0, api.ErrForm}, "a\xFF": {1, api.ErrForm}, "\u00E9\xA9": {2, api.ErrForm}, "\xC3": {0, api.ErrForm}, "a\xE2\x82": {1, api.ErrForm}, "\xC0\x80": {0, api.ErrForm}, "\xED\xA0\x80": {0, api.ErrForm},
	"\xF4\x90\x80\x80": {0, api.ErrForm}, "*\xFF": {1, api.ErrForm}, "(?i)\xFF": {4, api.ErrForm}, "(\xFF)": {1, api.ErrForm}, "{\xFF}": {1, api.ErrForm}, "{1,\xFF}": {3, api.ErrForm}, "[a]\xFF": {3, api.ErrForm}, "\\d\xFF": {2, api.ErrForm},
	"a?\xC3?": {2, api.ErrForm}, "\xC3|\xA9": {0, api.ErrForm}, "{1\xC3}": {2, api.ErrForm},

	// errors of a class escape or a character escape, at the backslash
	`\`: {0, api.ErrEnd}, `a\`: {1, api.ErrEnd}, `\\\`: {2, api.ErrEnd}, "\u00E9\\": {2, api.ErrEnd}, `\x`: {0, api.ErrEnd}, `a\x4`: {1, api.ErrEnd}, `ab\x{`: {2, api.ErrEnd}, `\x{41`: {0, api.ErrEnd}, `\d\x{110000`: {2, api.ErrEnd},
	`\q`: {0, api.ErrEscape}, `a\1`: {1, api.ErrEscape}, `a\0b`: {1, api.ErrEscape}, `\ `: {0, api.ErrEscape}, "\\\xFF": {0, api.ErrEscape}, "\\\u00E9": {0, api.ErrEscape}, "a\\\x7F": {1, api.ErrEscape}, "\\\n": {0, api.ErrEscape}, "\\\x00": {0, api.ErrEscape},
	`\xg1`: {0, api.ErrEscape}, `a\x4g`: {1, api.ErrEscape}, `\x{}`: {0, api.ErrEscape}, `*\x{110000}`: {1, api.ErrEscape}, `\x{0000041}`: {0, api.ErrEscape}, `\x{4`: {0, api.ErrEnd}, `\x{4 }`: {0, api.ErrEscape},
	`\Z`: {0, api.ErrEscape}, `\G`: {0, api.ErrEscape}, `\c`: {0, api.ErrEscape}, `\e`: {0, api.ErrEscape}, `\h`: {0, api.ErrEscape}, `\k<x>`: {0, api.ErrEscape}, `\u0041`: {0, api.ErrEscape}, `\_\i`: {2, api.ErrEscape},
	`\p`: {0, api.ErrEnd}, `a\P`: {1, api.ErrEnd}, `\p{`: {0, api.ErrEnd}, `\d\P{Greek`: {2, api.ErrEnd}, `\p{Greek\E`: {0, api.ErrEnd},
	`\p1`: {0, api.ErrClass}, `a\P-`: {1, api.ErrClass}, "\\p\xFF": {0, api.ErrClass}, `\pZ`: {0, api.ErrClass}, `(\p{x})`: {1, api.ErrClass}, `\p{}`: {0, api.ErrClass}, `\P{^^Greek}`: {0, api.ErrClass}, "\\p{\xFF}": {0, api.ErrClass}, `\p{greek}`: {0, api.ErrClass},

	// the error of Bracket, at the offset that Bracket reports
	`[`: {1, api.ErrEnd}, `a[`: {2, api.ErrEnd}, `[]`: {2, api.ErrEnd}, `a[^]`: {4, api.ErrEnd}, `ab[cd`: {5, api.ErrEnd}, `[a][b`: {5, api.ErrEnd}, `x[a[:b`: {3, api.ErrEnd}, `x[\`: {2, api.ErrEnd}, `x[a\x4`: {3, api.ErrEnd}, `x[\p{L`: {2, api.ErrEnd},
	`x[[:y:]]`: {2, api.ErrClass}, `x[a[:y:]]`: {3, api.ErrClass}, `*[b-a]`: {2, api.ErrClass}, `*[xb-a]`: {3, api.ErrClass}, `x[a-\d]`: {4, api.ErrClass}, `x[\pZ]`: {2, api.ErrClass}, `x[a\pZ`: {3, api.ErrClass},
	`x[\q]`: {2, api.ErrEscape}, `x[a\q]`: {3, api.ErrEscape}, `x[a-\q]`: {4, api.ErrEscape}, `\d[\x{110000}]`: {3, api.ErrEscape}, `[\Q]`: {1, api.ErrEscape}, `[\b]`: {1, api.ErrEscape}, `[\A]`: {1, api.ErrEscape},
	"x[\xFF]": {2, api.ErrForm}, "x[a\xFF": {3, api.ErrForm}, "x[a-\xC3]": {4, api.ErrForm}, "\u00E9[\u00E9\xC3": {5, api.ErrForm}, "(?:[^]\xFF": {6, api.ErrForm},

	// the numbers of a repetition, at its {
	`a{1001}`: {1, api.ErrRepeat}, `{2,1}`: {0, api.ErrRepeat}, `ab{0,1001}?`: {2, api.ErrRepeat}, `{1}{1001,}`: {3, api.ErrRepeat}, "\u00E9{1000,999}": {2, api.ErrRepeat}, `{{2,1}`: {1, api.ErrRepeat}, `a{9999}`: {1, api.ErrRepeat},

	// a (? that has no form, at its (
	`(?`: {0, api.ErrGroup}, `a(?`: {1, api.ErrGroup}, `(?)`: {0, api.ErrGroup}, `((?`: {1, api.ErrGroup}, `(?a)`: {0, api.ErrGroup}, `(?=a)`: {0, api.ErrGroup}, `(?!a)`: {0, api.ErrGroup}, `(?<=a)`: {0, api.ErrGroup}, `(?<!a)`: {0, api.ErrGroup},
	`(?>a)`: {0, api.ErrGroup}, `(?#a)`: {0, api.ErrGroup}, `(?P=x)`: {0, api.ErrGroup}, `(?P>x)`: {0, api.ErrGroup}, `(?|a)`: {0, api.ErrGroup}, `(?R)`: {0, api.ErrGroup}, `(?1)`: {0, api.ErrGroup}, `(?'x'a)`: {0, api.ErrGroup}, `(?*a)`: {0, api.ErrGroup},
	"(?\xFF)": {0, api.ErrGroup}, "(?P<\xFF>": {0, api.ErrGroup}, "(?i\xFF)": {0, api.ErrGroup}, `(?\Q:\E`: {0, api.ErrGroup}, `(?P<x`: {0, api.ErrGroup}, `(?P<x)`: {0, api.ErrGroup}, `(?P<x)>`: {0, api.ErrGroup}, `(?P<x:>`: {0, api.ErrGroup}, `(?i`: {0, api.ErrGroup},
	`(?P<>`: {0, api.ErrGroup}, `(?<>`: {0, api.ErrGroup}, `(?P`: {0, api.ErrGroup}, `(?P<`: {0, api.ErrGroup}, `(?<`: {0, api.ErrGroup}, `(?:(?i:(?-:`: {7, api.ErrGroup}, `(?i[a])`: {0, api.ErrGroup}, `(?i(?m:)`: {0, api.ErrGroup}, `(??:a)`: {0, api.ErrGroup},

	// the first of several errors
	"\xFF\\q": {0, api.ErrForm}, "\\q\xFF": {0, api.ErrEscape}, `[b-a{2,1}`: {1, api.ErrClass}, `{2,1}[b-a]`: {0, api.ErrRepeat}, `(?x{2,1}`: {0, api.ErrGroup}, `{2,1}(?x`: {0, api.ErrRepeat}, "[\xFF(?": {1, api.ErrForm}, "(?[\xFF": {0, api.ErrGroup},
	`\p{x}\q`: {0, api.ErrClass}, `\q\p{x}`: {0, api.ErrEscape}, `[a(?`: {4, api.ErrEnd}, `(?[a`: {0, api.ErrGroup}, `a\x{[`: {1, api.ErrEscape}, `{1001}{2,1}`: {0, api.ErrRepeat}, "a{1001\xFF}": {6, api.ErrForm}, `{3,2\q}`: {4, api.ErrEscape}, "\\Q\xFF\\E\\q": {2, api.ErrForm}, `(?x)\`: {0, api.ErrGroup},
	`\Q\q\E\q`: {6, api.ErrEscape}, `\Q[\E[`: {6, api.ErrEnd}, `\Q(?\E(?`: {6, api.ErrGroup}, `\Q{2,1}\E{2,1}`: {9, api.ErrRepeat},
}

func TestLexRefused(t *testing.T) {
	for s, want := range refusals {
		refused(t, s, want.at, want.e)
		// The same behind what is complete.
		for _, front := range []string{"a", "\u00E9", ".", "[a]", "\\d", "(?:", "(?P<x>", `\Qa\E`, "{1000}", "b*?"} {
			refused(t, front+s, len(front)+want.at, want.e)
			refused(t, front+front+s, 2*len(front)+want.at, want.e)
		}
	}
}

// An end of the pattern, a (? and an encoding that is cut off may be mended by what follows: no other error is.
func TestWhatFollowsAnErrorHasNoInfluence(t *testing.T) {
	for s, want := range refusals {
		for _, tail := range []string{"?", "}", ")", "]", "a", "\xFF", `\E`, `\q`, "[", "(?", "{2,1}", ">", ":", "0"} {
			likeTheModel(t, s+tail)
			if want.e != api.ErrEnd && want.e != api.ErrGroup && want.e != api.ErrForm {
				refused(t, s+tail, want.at, want.e)
			}
		}
	}
}
