package bracket_test

import (
	"slices"
	"strings"
	"testing"

	"burin/api"
	"burin/bracket"
	"burin/class"
	"burin/ranges"
)

const top = api.MaxRune

type list = []api.Range

// of makes a list of the ends of its ranges.
func of(ends ...int) list {
	var l list
	for i := 0; i < len(ends); i += 2 {
		l = append(l, api.Range{Lo: ends[i], Hi: ends[i+1]})
	}
	return l
}

// others returns the list of the numbers in none of the ranges of l, which must be normalized.
func others(l list) list {
	var out list
	next := 0
	for _, x := range l {
		if next < x.Lo {
			out = append(out, api.Range{Lo: next, Hi: x.Lo - 1})
		}
		next = x.Hi + 1
	}
	if next <= top {
		out = append(out, api.Range{Lo: next, Hi: top})
	}
	return out
}

// The classes that many tests use.
var (
	digits   = of(0x30, 0x39)
	spaces   = of(0x9, 0xA, 0xC, 0xD, 0x20, 0x20)
	words    = of(0x30, 0x39, 0x41, 0x5A, 0x5F, 0x5F, 0x61, 0x7A)
	cyrillic = of(0x400, 0x484, 0x487, 0x52F)
	decimals = of(0x30, 0x39, 0x660, 0x669, 0x6F0, 0x6F9, 0x966, 0x96F)
	all      = of(0, top)
)

// letters are the lists of the letter classes.
var letters = map[byte]list{'d': digits, 's': spaces, 'w': words, 'D': others(digits), 'S': others(spaces), 'W': others(words)}

// set demands what Set returns for s, if it returns no error.
func set(t *testing.T, s string, l list, n int) {
	t.Helper()
	gotL, gotN, e := bracket.Set(s)
	if !slices.Equal(gotL, l) || gotN != n || e != api.OK {
		t.Errorf("Set(%q) = %X, %d, %d, want %X, %d, OK", s, gotL, gotN, e, l, n)
	}
}

// noSet demands an error of Set, with nothing beside it.
func noSet(t *testing.T, s string, e api.Code) {
	t.Helper()
	l, n, gotE := bracket.Set(s)
	if len(l) != 0 || n != 0 || gotE != e {
		t.Errorf("Set(%q) = %X, %d, %d, want nothing, 0, %d", s, l, n, gotE, e)
	}
}

func TestSetOfEveryByte(t *testing.T) {
	noSet(t, "\\", api.ErrNone)
	for i := range 256 {
		c := byte(i)
		for _, tail := range tails {
			s := "\\" + string([]byte{c}) + tail
			l, isLetter := letters[c]
			switch {
			case isLetter:
				set(t, s, l, 2)
			case c != 'p' && c != 'P': // see below
				noSet(t, s, api.ErrNone)
			}
		}
	}
}

func TestSetWithoutABackslash(t *testing.T) {
	noSet(t, "", api.ErrForm)
	for i := range 256 {
		for _, tail := range []string{"", "d", "\\d", "p{Greek}", "\\p{Greek}", "pL", "{Greek}"} {
			if i != '\\' {
				noSet(t, string([]byte{byte(i)})+tail, api.ErrForm)
			}
		}
	}
	noSet(t, "\uFF3Cd", api.ErrForm)
}

func TestPropertiesByHand(t *testing.T) {
	for s, l := range map[string]list{
		"\\p{Cyrillic}": cyrillic, "\\P{Cyrillic}": others(cyrillic), "\\p{^Cyrillic}": others(cyrillic), "\\P{^Cyrillic}": cyrillic,
		"\\p{Nd}": decimals, "\\P{Nd}": others(decimals), "\\p{^Nd}": others(decimals), "\\P{^Nd}": decimals,
		"\\p{Any}": all, "\\P{^Any}": all,
		// Nothing is left of Any, and that is no error.
		"\\P{Any}": nil, "\\p{^Any}": nil,
	} {
		for _, tail := range tails {
			set(t, s+tail, l, len(s))
		}
	}
}

// property returns the list of a property.
func property(t *testing.T, name string) list {
	t.Helper()
	l, e := class.Property(name)
	if e != api.OK || len(l) == 0 {
		t.Fatalf("no property %s", name)
	}
	return l
}

func TestEveryProperty(t *testing.T) {
	for _, name := range class.Names() {
		l := property(t, name)
		for _, tail := range tails {
			n := len(name) + 4
			set(t, "\\p{"+name+"}"+tail, l, n)
			set(t, "\\P{"+name+"}"+tail, others(l), n)
			set(t, "\\p{^"+name+"}"+tail, others(l), n+1)
			set(t, "\\P{^"+name+"}"+tail, l, n+1)
		}
	}
	if l := property(t, "L"); ranges.Has(l, '0') || !ranges.Has(l, 'x') || !ranges.Has(l, 0x436) {
		t.Errorf("L is %X", l)
	}
}

func TestPropertyOfOneByte(t *testing.T) {
	l := property(t, "L")
	noSet(t, "\\p", api.ErrEnd)
	noSet(t, "\\P", api.ErrEnd)
	for i := range 256 {
		one := string([]byte{byte(i)})
		for _, tail := range append(tails, "u", "u}", "Greek}") {
			switch {
			case one == "L": // also before a u, as in Lu
				set(t, "\\p"+one+tail, l, 3)
				set(t, "\\P"+one+tail, others(l), 3)
			case one != "{":
				noSet(t, "\\p"+one+tail, api.ErrClass)
				noSet(t, "\\P"+one+tail, api.ErrClass)
			}
		}
		// No other name of one byte, and ^ alone names nothing.
		if one == "L" {
			set(t, "\\p{L}", l, 5)
			set(t, "\\P{L}", others(l), 5)
			continue
		}
		noSet(t, "\\p{"+one+"}", api.ErrClass)
		noSet(t, "\\P{"+one+"}}", api.ErrClass)
	}
}

func TestPropertyWithoutAnEnd(t *testing.T) {
	for _, name := range append(class.Names(), "", "^", "^Greek", "nothing", "{", "{{Greek", "\\", ":]", "]", "[", "\xFF", "\u00E9", "a b", "\x00", strings.Repeat("x", 1<<20)) {
		noSet(t, "\\p{"+name, api.ErrEnd)
		noSet(t, "\\P{"+name, api.ErrEnd)
	}
}

func TestNoSuchProperty(t *testing.T) {
	for _, name := range []string{
		"", "^", "^^", "^^L", "^^Greek", "greek", "GREEK", "Gree", "reek", "Greekk", " Greek", "Greek ", "Greek=", "IsGreek", "{Greek", "Han", "Lt", "N", "digit", "alpha", "d", "w",
		"Greek^", "\\Greek", "G\\reek", "G]reek", "[:alpha:]", "L\x00", "\x00L", "L\xFF", "\xFFL", "\xFF^L", "\u00E9", "\xC3", strings.Repeat("^", 100_000) + "L", strings.Repeat("L", 100_000),
	} {
		noSet(t, "\\p{"+name+"}", api.ErrClass)
		noSet(t, "\\P{"+name+"}", api.ErrClass)
		// The first } ends the name, whatever follows.
		noSet(t, "\\p{"+name+"}Greek}", api.ErrClass)
	}
}

func TestSetEndsAfterAnyByte(t *testing.T) {
	for _, s := range []string{"\\p{Greek}", "\\P{Greek}", "\\p{^Lu}", "\\P{^Lu}", "\\pL", "\\PL"} {
		noSet(t, s[:0], api.ErrForm)
		noSet(t, s[:1], api.ErrNone)
		for n := 2; n < len(s); n++ {
			noSet(t, s[:n], api.ErrEnd)
		}
		if _, n, e := bracket.Set(s); n != len(s) || e != api.OK {
			t.Errorf("Set(%q): %d, %d", s, n, e)
		}
	}
}
