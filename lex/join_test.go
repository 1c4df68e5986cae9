package lex_test

import (
	"math/rand/v2"
	"regexp"
	"slices"
	"strings"
	"testing"

	"burin/api"
	"burin/lex"
)

// unfinished is the end of a pattern that a digit, a comma or a } may make a repetition of.
var unfinished = regexp.MustCompile(`\{[0-9]*,?[0-9]*$`)

// isComplete reports whether no quotation is open at the end of s.
func isComplete(s string) bool {
	for at := 0; at < len(s); at++ {
		m := quoteForm.FindStringSubmatch(s[at:])
		switch {
		case m != nil && m[2] == "":
			return false
		case m != nil:
			at += len(m[0]) - 1
		case s[at] == '\\':
			at++
		}
	}
	return true
}

// mayContinue reports whether the second pattern may continue the last token of the first one.
func mayContinue(first, second string) bool {
	switch {
	case first == "" || second == "":
		return false
	case second[0] == '?':
		return strings.HasSuffix(first, "(") || strings.HasSuffix(first, "*") || strings.HasSuffix(first, "+") || strings.HasSuffix(first, "?") || strings.HasSuffix(first, "}")
	}
	return unfinished.MatchString(first) && strings.IndexByte("0123456789,}", second[0]) >= 0
}

// moved returns tokens whose offsets are greater by that much.
func moved(l []token, by int) []token {
	l = slices.Clone(l)
	for i := range l {
		l[i].At += by
	}
	return l
}

// joined demands what 8.2 says of two patterns: the tokens of both, or the error of the second one at its place.
func joined(t *testing.T, first, second string) bool {
	t.Helper()
	front, _, e := lex.Lex(first)
	if e != api.OK || !isComplete(first) || mayContinue(first, second) {
		return false
	}
	back, at, e := lex.Lex(second)
	if e == api.OK {
		lexed(t, first+second, all(front, moved(back, len(first)))...)
	} else {
		refused(t, first+second, len(first)+at, e)
	}
	return true
}

func TestPatternsThatAreJoined(t *testing.T) {
	patterns := append([]string{""}, pieces...)
	for s := range accepted {
		patterns = append(patterns, s)
	}
	for s := range refusals {
		patterns = append(patterns, s)
	}
	patterns = append(patterns, longOnes...)
	times := 0
	for _, x := range patterns {
		for _, y := range patterns {
			if joined(t, x, y) {
				times++
			}
		}
	}
	if times < len(patterns)*len(patterns)/4 {
		t.Errorf("only %d of %d pairs were looked at", times, len(patterns)*len(patterns))
	}
}

func TestManyPatternsThatAreJoined(t *testing.T) {
	random := rand.New(rand.NewPCG(8, 3))
	some := func() string {
		var s string
		for range random.IntN(5) {
			s += pieces[random.IntN(len(pieces))]
		}
		return s
	}
	for range 200_000 {
		joined(t, some(), some())
	}
}

func TestPatternsThatAreJoinedByHand(t *testing.T) {
	for _, pair := range [][2]string{
		{"a", "b"}, {"", ""}, {"", "a"}, {"a", ""}, {"a", "*"}, {"*", "*"}, {"(", ")"}, {"(", "a"}, {`\Qa\E`, "?"}, {`(\Q\E`, "?:"}, {`*\Q\E`, "?"}, {"{1}", "{2}"}, {"{", "{2}"}, {`\{`, "a}"}, {"[a]", "]"},
		{"(?P<x>", ">"}, {"(?i)", "?"}, {"(?:", "?"}, {"{2}?", "?"}, {"*?", "?"}, {"\\x41", "0"}, {"\\x{41}", "}"}, {`\p{L}`, "}"}, {`\pL`, "u"}, {`\\`, "d"}, {`\\`, `\d`}, {"|", "?"}, {".", "?"},
	} {
		first, second := pair[0], pair[1]
		front, _, e := lex.Lex(first)
		back, _, e2 := lex.Lex(second)
		if e != api.OK || e2 != api.OK {
			t.Errorf("Lex(%q), Lex(%q): %d, %d", first, second, int(e), int(e2))
		}
		lexed(t, first+second, all(front, moved(back, len(first)))...)
	}
}

// Where the second pattern does continue the first one, the tokens are others.
func TestPatternsThatAreContinued(t *testing.T) {
	lexed(t, "*"+"?", lazy(0, 0, -1))
	lexed(t, "+"+"?", lazy(0, 1, -1))
	lexed(t, "?"+"?", lazy(0, 0, 1))
	lexed(t, "{2}"+"?", lazy(0, 2, 2))
	lexed(t, "("+"?:", open(0, 0, 0))
	lexed(t, "("+"?i)", flags(0, 1, 0))
	lexed(t, "("+"?<x>", group(0, "x"))
	lexed(t, "{"+"2}", repeat(0, 2, 2))
	lexed(t, "{2"+"}", repeat(0, 2, 2))
	lexed(t, "{2,"+"3}", repeat(0, 2, 3))
	lexed(t, "{2"+",3}", repeat(0, 2, 3))
	lexed(t, `\Qa`+"*", one(2, 'a'), one(3, '*'))
	lexed(t, `\Q`+`\E`)
	lexed(t, `\Q\`+`E`)
	refused(t, "{3,"+"2}", 0, api.ErrRepeat)
	refused(t, "("+"?", 0, api.ErrGroup)
}
