package bracket_test

import (
	"fmt"
	"math/rand/v2"
	"slices"
	"strings"
	"testing"
	"unicode/utf8"

	"burin/api"
	"burin/bracket"
	"burin/fold"
	"burin/ranges"
)

// behind may follow the ] of a bracket expression.
var behind = []string{
	"", "]", "]]", "-", "-z]", "-a", "^", "a", "[", "[a]", "[:", "[:alpha:]", "[:alpha:]]", ":]", ":]]", "{2}", "*", "\\", "\\]", "\\q", "\\p{", "\\p{x}", "}", "\\x{", "1}", "|)",
	"\x00", "\x80", "\xA9", "\xFF", "\u00E9", strings.Repeat("]", 1000),
}

func TestWhatFollowsHasNoInfluence(t *testing.T) {
	whole := slices.Clone(longOnes)
	for s := range accepted {
		whole = append(whole, s)
	}
	for _, s := range whole {
		for _, flags := range []int{0, api.FFold} {
			l, n, e := bracket.Bracket(s, flags)
			if n != len(s) || e != api.OK {
				t.Errorf("Bracket(%q, %d): %d, %d", s, flags, n, e)
			}
			for _, tail := range behind {
				parsed(t, s+tail, flags, l, len(s))
			}
		}
	}
}

// An end of the string, and an encoding that is cut off by it, may be mended by what follows: no other error is.
func TestWhatFollowsAnErrorHasNoInfluence(t *testing.T) {
	for s, want := range refusals {
		if want.e == api.ErrEnd || want.e == api.ErrForm && len(s)-want.at < utf8.UTFMax {
			continue
		}
		for _, tail := range behind {
			refused(t, s+tail, 0, want.at, want.e)
		}
	}
}

// spelled is a number as it may be written in a bracket expression.
func spelled(random *rand.Rand, r int) string {
	forms := []string{`\x{%x}`, `\x{%X}`, `\x{%06x}`, `\x{%04X}`}
	if r <= 0xFF {
		forms = append(forms, `\x%02x`, `\x%02X`)
	}
	switch {
	case r > 0x7F && utf8.ValidRune(rune(r)), '0' <= r && r <= '9', 'A' <= r && r <= 'Z', 'a' <= r && r <= 'z', 0 <= r && r <= ' ':
		return []string{string(rune(r)), fmt.Sprintf(forms[random.IntN(len(forms))], r)}[random.IntN(2)]
	case r <= 0x7E:
		return []string{`\` + string(rune(r)), fmt.Sprintf(forms[random.IntN(len(forms))], r)}[random.IntN(2)]
	}
	return fmt.Sprintf(forms[random.IntN(len(forms))], r)
}

// written is a bracket expression without ^ of the numbers in the ranges of l, in their order.
func written(random *rand.Rand, l list) string {
	s := "["
	for _, x := range l {
		s += spelled(random, x.Lo)
		if x.Lo < x.Hi || random.IntN(8) == 0 {
			s += "-" + spelled(random, x.Hi)
		}
	}
	return s + "]"
}

// someNumber is a number at or near a place where something changes, or any other.
func someNumber(random *rand.Rand) int {
	at := []int{0, 0x20, '-', '0', '9', 'A', 'K', 'Z', '[', ']', '^', 'a', 'k', 'z', 0x7F, 0x100, 0x17F, 0x3A3, 0x7FF, 0x800, 0x212A, 0xD7FF, 0xD800, 0xDFFF, 0xE000, 0xFFFF, 0x10000, top, random.IntN(top + 1), random.IntN(0x500)}
	return min(max(at[random.IntN(len(at))]+random.IntN(5)-2, 0), top)
}

func TestSetsThatAreWrittenOut(t *testing.T) {
	random := rand.New(rand.NewPCG(7, 4))
	for range 3000 {
		var l list
		for range 1 + random.IntN(6) {
			a, b := someNumber(random), someNumber(random)
			if random.IntN(2) == 0 {
				b = a + random.IntN(3)
			}
			l = append(l, api.Range{Lo: min(a, b, top), Hi: min(max(a, b), top)})
		}
		want := ranges.Norm(l)
		// In any order, with repetitions, and as its own list.
		for _, l := range []list{l, want, slices.Concat(want, l)} {
			s := written(random, l)
			parsed(t, s, 0, want, len(s))
			parsed(t, "[^"+s[1:], 0, others(want), len(s)+1)
			parsed(t, s, api.FFold, fold.Close(want), len(s))
			parsed(t, "[^"+s[1:], api.FFold, others(fold.Close(want)), len(s)+1)
		}
	}
}

func TestClassesThatAreWrittenOut(t *testing.T) {
	random := rand.New(rand.NewPCG(7, 5))
	for s, l := range accepted {
		if len(l) == 0 {
			continue
		}
		out := written(random, l)
		got, n, e := bracket.Bracket(out, 0)
		if !slices.Equal(got, l) || n != len(out) || e != api.OK {
			t.Errorf("Bracket(%q) = %X, %d, %d, want what %q is: %X", out, got, n, e, s, l)
		}
	}
}

// overwrite writes to all the memory of l.
func overwrite(l list) {
	l = l[:cap(l)]
	for i := range l {
		l[i] = api.Range{Lo: -99, Hi: -100}
	}
}

// newMemory demands that the lists of a call share no memory with each other, nor with what the package keeps.
func newMemory(t *testing.T, name string, call func() list) {
	t.Helper()
	want := slices.Clone(call())
	first, second := call(), call()
	overwrite(second)
	if !slices.Equal(first, want) {
		t.Errorf("the results of %s share memory", name)
	}
	overwrite(first)
	if got := call(); !slices.Equal(got, want) {
		t.Errorf("%s is %X after its results were overwritten, and was %X", name, got, want)
	}
}

func TestListsAreNewMemory(t *testing.T) {
	for _, s := range []string{`\d`, `\D`, `\s`, `\S`, `\w`, `\W`, `\pL`, `\PL`, `\p{Any}`, `\P{Any}`, `\p{Greek}`, `\P{Greek}`, `\p{^Nd}`, `\P{^Nd}`} {
		newMemory(t, "Set("+s+")", func() list {
			l, _, _ := bracket.Set(s)
			return l
		})
		for _, s := range []string{"[" + s + "]", "[^" + s + "]", "[" + s + s + "]"} {
			for _, flags := range []int{0, api.FFold} {
				newMemory(t, "Bracket("+s+")", func() list {
					l, _, _ := bracket.Bracket(s, flags)
					return l
				})
			}
		}
	}
	for _, s := range append(longOnes, "[a]", "[^a]", "[a-z]", "[[:alpha:]]", "[^[:^alpha:]]", "[]-]", `[\x{0}-\x{10FFFF}]`) {
		newMemory(t, "Bracket("+s+")", func() list {
			l, _, _ := bracket.Bracket(s, 0)
			return l
		})
	}
}

// A result of one function must not be a result of another.
func TestListsOfDifferentCallsShareNoMemory(t *testing.T) {
	for _, s := range []string{`\d`, `\W`, `\pL`, `\P{Greek}`, `\p{Any}`} {
		l, _, _ := bracket.Set(s)
		want := slices.Clone(l)
		for _, whole := range []string{"[" + s + "]", "[^" + s + "]"} {
			got, _, _ := bracket.Bracket(whole, 0)
			overwrite(got)
			got, _, _ = bracket.Bracket(whole, api.FFold)
			overwrite(got)
		}
		if !slices.Equal(l, want) {
			t.Errorf("the results of Set and Bracket share memory: %s", s)
		}
	}
}

func TestCallsDoNotInfluenceOneAnother(t *testing.T) {
	results := func() []string {
		var out []string
		for s := range accepted {
			for _, flags := range []int{0, api.FFold} {
				l, n, e := bracket.Bracket(s, flags)
				out = append(out, fmt.Sprint(s, flags, l, n, int(e)))
			}
		}
		for s := range refusals {
			l, n, e := bracket.Bracket(s, 0)
			out = append(out, fmt.Sprint(s, l, n, int(e)))
		}
		slices.Sort(out)
		return out
	}
	// The maps are walked in another order each time.
	if !slices.Equal(results(), results()) {
		t.Error("the same calls in another order return other results")
	}
}
