package sem_test

import (
	"math/rand/v2"
	"regexp"
	"slices"
	"strconv"
	"strings"
	"testing"

	"burin/api"
	"burin/norm"
	"burin/sem"
)

// spelling is a pattern of n for the library of Go.
func spelling(n node) string {
	var parts []string
	for _, sub := range n.Subs {
		parts = append(parts, "(?:"+spelling(sub)+")")
	}
	switch n.Kind {
	case api.KNone:
		return `[^\x00-\x{10FFFF}]`
	case api.KSet:
		var l []string
		for _, x := range n.Set {
			l = append(l, `\x{`+strconv.FormatInt(int64(x.Lo), 16)+`}-\x{`+strconv.FormatInt(int64(x.Hi), 16)+"}")
		}
		return "[" + strings.Join(l, "") + "]"
	case api.KByte:
		return "(?s:.)" // the same for texts of ASCII
	case api.KAssert:
		return strings.Fields(`\A \z (?m:^) (?m:$) \b \B`)[n.Num-1]
	case api.KGroup:
		return "(" + spelling(n.Subs[0]) + ")"
	case api.KAlt:
		return strings.Join(parts, "|")
	case api.KRepeat:
		limit := map[bool]string{true: "", false: strconv.Itoa(n.Max)}[n.Max == -1]
		return parts[0] + "{0," + limit + "}" + map[bool]string{true: "?"}[n.Lazy]
	}
	return strings.Join(parts, "")
}

// nullable reports whether n may match the empty string.
func nullable(n node) bool {
	switch n.Kind {
	case api.KEmpty, api.KAssert, api.KRepeat:
		return true
	case api.KAlt:
		return slices.ContainsFunc(n.Subs, nullable)
	case api.KGroup, api.KCat:
		return !slices.ContainsFunc(n.Subs, func(sub node) bool { return !nullable(sub) })
	}
	return false
}

// repeatsNothing reports whether n repeats something nullable: there, the library has rules of its own.
func repeatsNothing(n node) bool {
	return n.Kind == api.KRepeat && nullable(n.Subs[0]) || slices.ContainsFunc(n.Subs, repeatsNothing)
}

// Where both have the same rules, the library of Go finds the same.
func TestLikeTheLibrary(t *testing.T) {
	t.Parallel()
	for i, s := range []style{
		{[]node{a(), b(), set('a', 'b'), empty(), assert(api.AWord), anyByte()}, []int{-1, 1, 2, 3}, 1, texts("ab ", 5)},
		{[]node{a(), b(), one('\n'), none(), assert(api.ABegin), assert(api.AEnd), assert(api.ALine), assert(api.ALineEnd), assert(api.ANoWord)}, []int{-1, 1, 2, 3}, 1, texts("ab\n", 5)},
		{[]node{a(), one(0xE9), set(0x20AC, api.MaxRune), set(0, 0xE9), set('a', 'a', 0x1F600, 0x1F600)}, []int{-1, 1, 2, 4}, 1, texts("a\u00e9", 0)},
	} {
		if len(s.texts) == 1 {
			s.texts = []string{"", "a\u00e9", "\u00e9\u00e9a", "\u20ac\u00e9", "\U0001F600a\U0001F600", "\u00e9\u20aca\U0001F601\u00e9a"}
		}
		random := rand.New(rand.NewPCG(13, 300+uint64(i)))
		for compared := 0; compared < 3_000; {
			n := numbered(someCore(random, 2+random.IntN(5), s))
			if repeatsNothing(n) || norm.Check(n) != api.OK {
				continue
			}
			compared++
			first, longest := regexp.MustCompile(spelling(n)), regexp.MustCompile(spelling(n))
			longest.Longest()
			for range 8 {
				text := s.texts[random.IntN(len(s.texts))]
				want := first.FindStringSubmatchIndex(text)
				if got, _ := sem.Match(n, api.Ask{Text: text}); !slices.Equal(got.Slots, want) || got.Ok != (want != nil) {
					t.Fatalf("the first match of %s in %q is %v, of the library %v", spell(n), text, got, want)
				}
				// The library chooses among longest matches by a rule of its own, so only their places are the same.
				want = longest.FindStringIndex(text)
				if got, _ := sem.Match(n, api.Ask{Text: text, Longest: true}); !slices.Equal(got.Slots[:min(len(got.Slots), 2)], want) || got.Ok != (want != nil) {
					t.Fatalf("the longest match of %s in %q is %v, of the library %v", spell(n), text, got, want)
				}
			}
		}
	}
}
