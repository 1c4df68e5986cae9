package parse_test

import (
	"math/rand/v2"
	"regexp"
	"slices"
	"strings"
	"testing"
	"unicode/utf8"

	"burin/api"
	"burin/parse"
)

// search is a search of a tree in a text, by the definition of its parts, that begins at one offset.
type search struct {
	text  string
	slots []int
}

func isWord(s string, at int) bool {
	return at >= 0 && at < len(s) && strings.IndexByte("0123456789ABCDEFGHIJKLMNOPQRSTUVWXYZ_abcdefghijklmnopqrstuvwxyz", s[at]) >= 0
}

// holds reports whether an assertion holds.
func (x *search) holds(num, at int) bool {
	s := x.text
	border := isWord(s, at-1) != isWord(s, at)
	return []bool{false, at == 0, at == len(s), at == 0 || s[at-1] == '\n', at == len(s) || s[at] == '\n', border, !border}[num]
}

// match reports whether n matches at an offset, so that what follows matches at the end of that.
func (x *search) match(n node, at int, follows func(at int) bool) bool {
	switch n.Kind {
	case api.KEmpty:
		return follows(at)
	case api.KSet:
		r, size := utf8.DecodeRuneInString(x.text[at:])
		return size > 0 && slices.ContainsFunc(n.Set, func(s api.Range) bool { return s.Lo <= int(r) && int(r) <= s.Hi }) && follows(at+size)
	case api.KAssert:
		return x.holds(n.Num, at) && follows(at)
	case api.KGroup:
		old := slices.Clone(x.slots)
		matched := x.match(n.Subs[0], at, func(end int) bool {
			inner := slices.Clone(x.slots)
			x.slots[2*n.Num], x.slots[2*n.Num+1] = at, end
			return follows(end) || !x.reset(inner)
		})
		return matched || !x.reset(old)
	case api.KCat:
		if len(n.Subs) == 0 {
			return follows(at)
		}
		rest := n
		rest.Subs = n.Subs[1:]
		return x.match(n.Subs[0], at, func(end int) bool { return x.match(rest, end, follows) })
	case api.KAlt:
		return slices.ContainsFunc(n.Subs, func(sub node) bool { return x.match(sub, at, follows) })
	case api.KRepeat:
		return x.repeat(n, at, follows)
	}
	return false
}

// reset takes the slots back, and reports true.
func (x *search) reset(slots []int) bool {
	copy(x.slots, slots)
	return true
}

// repeat is match for a KRepeat whose Sub does not match the empty string.
func (x *search) repeat(n node, at int, follows func(at int) bool) bool {
	again := func() bool {
		rest := n
		rest.Min = max(n.Min-1, 0)
		if n.Max > 0 {
			rest.Max = n.Max - 1
		}
		return n.Max != 0 && x.match(n.Subs[0], at, func(end int) bool { return x.repeat(rest, end, follows) })
	}
	switch {
	case n.Min > 0:
		return again()
	case n.Lazy:
		return follows(at) || again()
	}
	return again() || follows(at)
}

// found returns the offsets of the first match of n in the text and of its groups, as the library does.
func found(n node, text string) []int {
	for at := range len(text) + 1 {
		if at < len(text) && !utf8.RuneStart(text[at]) {
			continue
		}
		x := search{text, slices.Repeat([]int{-1}, 2+2*countGroups(n))}
		if x.match(n, at, func(end int) bool {
			x.slots[0], x.slots[1] = at, end
			return true
		}) {
			return x.slots
		}
	}
	return nil
}

// mayBeEmpty reports whether a match of n may be empty.
func mayBeEmpty(n node) bool {
	switch n.Kind {
	case api.KEmpty, api.KAssert:
		return true
	case api.KGroup, api.KCat:
		return !slices.ContainsFunc(n.Subs, func(sub node) bool { return !mayBeEmpty(sub) })
	case api.KAlt:
		return slices.ContainsFunc(n.Subs, mayBeEmpty)
	}
	return n.Kind == api.KRepeat && (n.Min == 0 || mayBeEmpty(n.Subs[0]))
}

// repeatsEmpty reports whether n repeats what may be empty: engines do not agree about what groups are then.
func repeatsEmpty(n node) bool {
	return n.Kind == api.KRepeat && mayBeEmpty(n.Subs[0]) || slices.ContainsFunc(n.Subs, repeatsEmpty)
}

// libraryParts are parts of patterns that mean the same in the library of Go.
var libraryParts = []string{
	"a", "a", "b", "b", "A", "k", "1", "\u00E9", ".", "^", "$", `\A`, `\z`, `\b`, `\B`, `\d`, `\w`, "[ab]", "[^a]", "[A-k]", `\n`, `\Qa*\E`, `\x61`,
	"|", "|", "(", "(", "(?:", "(?:", "(?P<x>", "(?<y>", ")", ")", ")", ")",
	"*", "+", "?", "*?", "+?", "??", "{2}", "{1,}", "{0,2}?", "{0}",
	"(?i)", "(?m)", "(?s)", "(?U)", "(?-i)", "(?-U)", "(?ms)", "(?i:", "(?-i:", "(?U:", "(?s-U:",
}

// others are what the library has other rules for: a repetition behind flags repeats what stands ahead of them, and
// there may be no flags between (? and a parenthesis.
var others = regexp.MustCompile(`\(\?[a-zA-Z-]+\)(\\Q\\E)*[*+?{]|\(\?\)`)

// likeTheLibrary demands that a pattern is valid for both or for none, and finds the same; it reports whether it does.
func likeTheLibrary(t *testing.T, s string, texts []string) bool {
	t.Helper()
	n, _, e := parse.Parse(s, 0)
	r, err := regexp.Compile(s)
	if others.MatchString(s) || e == api.ErrThere {
		return false
	}
	if (e == api.OK) != (err == nil) {
		t.Errorf("Parse(%q): %d, but the library: %v", s, int(e), err)
		return false
	}
	if e != api.OK || repeatsEmpty(n) {
		return false
	}
	for i, name := range r.SubexpNames()[1:] {
		var names []string
		listNames(n, &names)
		if names[i] != name {
			t.Errorf("Parse(%q): the name of group %d is %q, want %q", s, i+1, names[i], name)
		}
	}
	for _, text := range texts {
		if got, want := found(n, text), r.FindStringSubmatchIndex(text); !slices.Equal(got, want) {
			t.Errorf("Parse(%q) in %q finds %v, want %v", s, text, got, want)
		}
	}
	return true
}

func TestPatternsFindWhatTheLibraryFinds(t *testing.T) {
	texts := []string{"", "a", "b", "ab", "ba", "aab", "abab", "Ab", "aK1", "k\na", "\nb\n", "1a\u00E9b", "a*b", "bbaabA\nkk"}
	for s := range shapes {
		if !strings.Contains(s, `\C`) && !strings.Contains(s, "Any}") && s != "(?P<x>)|(?P<X>)" {
			likeTheLibrary(t, s, texts)
		}
	}
	random := rand.New(rand.NewPCG(9, 5))
	compared := 0
	for range 40_000 {
		var s string
		open := 0
		for range 1 + random.IntN(12) {
			part := libraryParts[random.IntN(len(libraryParts))]
			s += part
			if strings.HasPrefix(part, "(") && !strings.HasSuffix(part, ")") {
				open++
			}
			if part == ")" {
				open--
			}
		}
		if likeTheLibrary(t, s+strings.Repeat(")", max(open, 0)), texts) {
			compared++
		}
	}
	if compared < 10_000 {
		t.Errorf("only %d patterns were compared", compared)
	}
}
