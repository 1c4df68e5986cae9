package parse_test

import (
	"slices"
	"strconv"
	"strings"
	"testing"

	"burin/api"
	"burin/parse"
)

const top = api.MaxRune

type node = api.Node

// of makes a list of the ends of its ranges.
func of(ends ...int) []api.Range {
	var l []api.Range
	for i := 0; i < len(ends); i += 2 {
		l = append(l, api.Range{Lo: ends[i], Hi: ends[i+1]})
	}
	return l
}

// The kinds of nodes.

func empty() node           { return node{Kind: 1} }
func none() node            { return node{Kind: 2} }
func set(ends ...int) node  { return node{Kind: 3, Set: of(ends...)} }
func one(r int) node        { return set(r, r) }
func anyByte() node         { return node{Kind: 4} }
func assert(num int) node   { return node{Kind: 5, Num: num} }
func cat(subs ...node) node { return node{Kind: 7, Subs: subs} }
func alt(subs ...node) node { return node{Kind: 8, Subs: subs} }

func group(num int, sub node) node { return node{Kind: 6, Num: num, Subs: []node{sub}} }

func named(num int, name string, sub node) node {
	return node{Kind: 6, Num: num, Name: name, Subs: []node{sub}}
}

func repeat(low, high int, sub node) node {
	return node{Kind: 9, Min: low, Max: high, Subs: []node{sub}}
}

func lazy(low, high int, sub node) node {
	return node{Kind: 9, Min: low, Max: high, Lazy: true, Subs: []node{sub}}
}

func star(sub node) node { return repeat(0, -1, sub) }

// letter is what a letter a to z stands for if case is ignored.
func letter(c int) node {
	switch c {
	case 'k':
		return set('K', 'K', 'k', 'k', 0x212A, 0x212A)
	case 's':
		return set('S', 'S', 's', 's', 0x17F, 0x17F)
	}
	return set(c-32, c-32, c, c)
}

// noLine is what a dot stands for that does not match line feeds, and everything what the other one does.
func noLine() node     { return set(0, 9, 11, top) }
func everything() node { return set(0, top) }

// equal reports whether two trees are the same in all fields. It is a part of the tests, so that these do not trust
// package tree, and has no limit of depth.
func equal(a, b node) bool {
	fields := a.Kind == b.Kind && a.Num == b.Num && a.Name == b.Name && a.Min == b.Min && a.Max == b.Max && a.Lazy == b.Lazy
	return fields && slices.Equal(a.Set, b.Set) && slices.EqualFunc(a.Subs, b.Subs, equal)
}

// text is a tree for a reader.
func text(n node) string {
	var out []string
	for _, f := range []struct {
		name  string
		value int
	}{{"kind", n.Kind}, {"num", n.Num}, {"min", n.Min}, {"max", n.Max}} {
		if f.value != 0 {
			out = append(out, f.name+" "+strconv.Itoa(f.value))
		}
	}
	if n.Name != "" {
		out = append(out, strconv.Quote(n.Name))
	}
	if n.Lazy {
		out = append(out, "lazy")
	}
	for _, x := range n.Set {
		out = append(out, strconv.FormatInt(int64(x.Lo), 16)+"-"+strconv.FormatInt(int64(x.Hi), 16))
	}
	for _, sub := range n.Subs {
		out = append(out, text(sub))
	}
	return "(" + strings.Join(out, " ") + ")"
}

// cut shortens a long text for a reader.
func cut(s string) string {
	if len(s) > 400 {
		return s[:200] + " ... " + s[len(s)-200:]
	}
	return s
}

// parsed demands what Parse returns for s, if it returns no error.
func parsed(t *testing.T, s string, flags int, want node) {
	t.Helper()
	n, at, e := parse.Parse(s, flags)
	if !equal(n, want) || at != 0 || e != api.OK {
		t.Errorf("Parse(%q, %d) = %s, %d, %d, want %s, 0, OK", cut(s), flags, cut(text(n)), at, int(e), cut(text(want)))
	}
}

// refused demands an error of Parse and its offset, with no tree.
func refused(t *testing.T, s string, flags int, at int, e api.Code) {
	t.Helper()
	n, gotAt, gotE := parse.Parse(s, flags)
	if !equal(n, node{}) || n.Set != nil || n.Subs != nil || gotAt != at || gotE != e {
		t.Errorf("Parse(%q, %d) = %s, %d, %d, want no tree, %d, %d", cut(s), flags, cut(text(n)), gotAt, int(gotE), at, int(e))
	}
}

// shapes are patterns and their trees, if no flag is set.
var shapes = map[string]node{
	// the document's example
	"a|b*": alt(one('a'), star(one('b'))),

	// sequences of no atom, one, several
	"": empty(), "a": one('a'), "ab": cat(one('a'), one('b')), "abc": cat(one('a'), one('b'), one('c')), "abcde": cat(one('a'), one('b'), one('c'), one('d'), one('e')),
	`\Q\E`: empty(), `\Q`: empty(), `\Qab`: cat(one('a'), one('b')), `\Q*\E`: one('*'), `\Q(|`: cat(one('('), one('|')), "]}": cat(one(']'), one('}')), "a{": cat(one('a'), one('{')), "\u00E9\u20AC": cat(one(0xE9), one(0x20AC)),

	// alternatives
	"|": alt(empty(), empty()), "||": alt(empty(), empty(), empty()), "|a": alt(empty(), one('a')), "a|": alt(one('a'), empty()), "a|b": alt(one('a'), one('b')), "a|b|c": alt(one('a'), one('b'), one('c')), "a||b": alt(one('a'), empty(), one('b')),
	"ab|c": alt(cat(one('a'), one('b')), one('c')), "a|bc": alt(one('a'), cat(one('b'), one('c'))), "ab|cd|": alt(cat(one('a'), one('b')), cat(one('c'), one('d')), empty()), "a|a": alt(one('a'), one('a')), `\Q\E|\Q\E`: alt(empty(), empty()),

	// repetitions
	"a*": star(one('a')), "a+": repeat(1, -1, one('a')), "a?": repeat(0, 1, one('a')), "a{2}": repeat(2, 2, one('a')), "a{2,}": repeat(2, -1, one('a')), "a{2,3}": repeat(2, 3, one('a')), "a{0}": repeat(0, 0, one('a')), "a{1}": repeat(1, 1, one('a')), "a{0,1}": repeat(0, 1, one('a')), "a{0,}": star(one('a')), "a{1000}": repeat(1000, 1000, one('a')), "a{1000,}": repeat(1000, -1, one('a')), "a{0,1000}": repeat(0, 1000, one('a')),
	"a*?": lazy(0, -1, one('a')), "a+?": lazy(1, -1, one('a')), "a??": lazy(0, 1, one('a')), "a{2}?": lazy(2, 2, one('a')), "a{2,}?": lazy(2, -1, one('a')), "a{2,3}?": lazy(2, 3, one('a')), "a{0}?": lazy(0, 0, one('a')), "a{0,0}?": lazy(0, 0, one('a')),
	"ab*": cat(one('a'), star(one('b'))), "a*b": cat(star(one('a')), one('b')), "a*b*": cat(star(one('a')), star(one('b'))), "a*|b": alt(star(one('a')), one('b')), "a|b*c?|d{2}": alt(one('a'), cat(star(one('b')), repeat(0, 1, one('c'))), repeat(2, 2, one('d'))), `\Qab\E*`: cat(one('a'), star(one('b'))), `a\Q\E*`: star(one('a')), `a*\Q*`: cat(star(one('a')), one('*')),
	"]*": star(one(']')), "{*": star(one('{')), "}+": repeat(1, -1, one('}')), "{1{2}": cat(one('{'), repeat(2, 2, one('1'))),

	// groups that capture: their numbers and names
	"()": group(1, empty()), "(a)": group(1, one('a')), "(ab)": group(1, cat(one('a'), one('b'))), "(a|b)": group(1, alt(one('a'), one('b'))), "(|)": group(1, alt(empty(), empty())), "(a)(b)": cat(group(1, one('a')), group(2, one('b'))), "((a))": group(1, group(2, one('a'))), "((a)(b))(c)": cat(group(1, cat(group(2, one('a')), group(3, one('b')))), group(4, one('c'))),
	"(a)|(b)": alt(group(1, one('a')), group(2, one('b'))), "(((a)|b)|c)|(d)": alt(group(1, alt(group(2, alt(group(3, one('a')), one('b'))), one('c'))), group(4, one('d'))), "(?:(a)(?:b)(c))": cat(group(1, one('a')), one('b'), group(2, one('c'))), "a(b)c": cat(one('a'), group(1, one('b')), one('c')),
	"(?P<x>a)": named(1, "x", one('a')), "(?<y>)": named(1, "y", empty()), "(?P<x>a)(b)(?<y>c)": cat(named(1, "x", one('a')), group(2, one('b')), named(3, "y", one('c'))), "(?P<a>(?P<b>(?P<c>)))": named(1, "a", named(2, "b", named(3, "c", empty()))), "(?P<x>)|(?P<X>)": alt(named(1, "x", empty()), named(2, "X", empty())),
	"(a)*": star(group(1, one('a'))), "(a*)*": star(group(1, star(one('a')))), "(a)*(b)+?": cat(star(group(1, one('a'))), lazy(1, -1, group(2, one('b')))), "()*": star(group(1, empty())), "(|a){2,3}?": lazy(2, 3, group(1, alt(empty(), one('a')))),

	// groups that do not capture
	"(?:)": empty(), "(?:a)": one('a'), "(?:ab)": cat(one('a'), one('b')), "(?:a|b)": alt(one('a'), one('b')), "(?:|)": alt(empty(), empty()), "(?:(?:a))": one('a'), "(?:(?:))": empty(), "(?:ab)c": cat(cat(one('a'), one('b')), one('c')), "a(?:bc)": cat(one('a'), cat(one('b'), one('c'))), "(?:a)b": cat(one('a'), one('b')), "(?:)a": cat(empty(), one('a')), "a(?:)": cat(one('a'), empty()), "(?:)(?:)": cat(empty(), empty()),
	"(?:a|b)|c": alt(alt(one('a'), one('b')), one('c')), "a|(?:b|c)": alt(one('a'), alt(one('b'), one('c'))), "(?:a|b)c": cat(alt(one('a'), one('b')), one('c')), "(?:ab)*": star(cat(one('a'), one('b'))), "(?:a|b)*": star(alt(one('a'), one('b'))), "(?:a*)*": star(star(one('a'))), "(?:a*)*?": lazy(0, -1, star(one('a'))), "(?:(?:a+)?){2}": repeat(2, 2, repeat(0, 1, repeat(1, -1, one('a')))), "(?:)*": star(empty()), "(?:|)?": repeat(0, 1, alt(empty(), empty())), "(?:(?:ab))*": star(cat(one('a'), one('b'))),
	"(?i-s:a)": letter('a'), "(?-i:)": empty(), "(?:(a))": group(1, one('a')),

	// flags within a pattern: what stands alone is no atom
	"(?i)": empty(), "(?i)(?s)": empty(), "a(?i)": one('a'), "(?i)a": letter('a'), "(?i)|": alt(empty(), empty()), "|(?i)": alt(empty(), empty()), "((?i))": group(1, empty()), "(?:(?i))": empty(), "(?-i)a": one('a'), "a(?i)b": cat(one('a'), letter('b')), "a(?i)b(?-i)c": cat(one('a'), letter('b'), one('c')), "(?i)a|b": alt(letter('a'), letter('b')), "a|(?i)b": alt(one('a'), letter('b')), "a|(?i)b|c": alt(one('a'), letter('b'), letter('c')), "a(?i)|b": alt(one('a'), letter('b')), "a(?i)b|c(?-i)d|e": alt(cat(one('a'), letter('b')), cat(letter('c'), one('d')), one('e')),
	"((?i)a)b": cat(group(1, letter('a')), one('b')), "(a(?i)b|c)d": cat(group(1, alt(cat(one('a'), letter('b')), letter('c'))), one('d')), "(?i)(a)b": cat(group(1, letter('a')), letter('b')), "(?i)((?-i)a)b": cat(group(1, one('a')), letter('b')), "(?:(?i)a|b)c": cat(alt(letter('a'), letter('b')), one('c')), "(?P<x>(?i)a)b": cat(named(1, "x", letter('a')), one('b')), "(?:((?i)a)b)c": cat(cat(group(1, letter('a')), one('b')), one('c')),
	"(?i:a)b": cat(letter('a'), one('b')), "(?i:a(?-i)b)c": cat(cat(letter('a'), one('b')), one('c')), "(?i:a(?-i:b)c)d": cat(cat(letter('a'), one('b'), letter('c')), one('d')), "(?i:a|b)": alt(letter('a'), letter('b')), "(?i)(?-i:a)b": cat(one('a'), letter('b')), "(?i)(?:a)": letter('a'), "(?i)(?s:a)": letter('a'), "(?i)(?-s:a)": letter('a'), "(?i-i:a)b": cat(one('a'), one('b')), "(?i)a(?i-i)b": cat(letter('a'), one('b')), "(?i)a(?-s)b": cat(letter('a'), letter('b')),

	// FSwap counts where the repetition stands
	"(?U)a*": lazy(0, -1, one('a')), "(?U)a*?": star(one('a')), "a*(?U)b*": cat(star(one('a')), lazy(0, -1, one('b'))), "(?U:a*)*": star(lazy(0, -1, one('a'))), "(?U)(?-U:a*)*": lazy(0, -1, star(one('a'))), "(?:(?U)a)*": star(one('a')), "((?U)a+)+": repeat(1, -1, group(1, lazy(1, -1, one('a')))), "(?U)a{2}b{2}?": cat(lazy(2, 2, one('a')), repeat(2, 2, one('b'))), "(?U:a)?": repeat(0, 1, one('a')), "(?U)(?:a)?(?U-U)b?": cat(lazy(0, 1, one('a')), repeat(0, 1, one('b'))),

	// several flags at once
	"(?ims)^.k$":            cat(assert(3), everything(), letter('k'), assert(4)),
	"(?ims)(?-ms)^.k$":      cat(assert(1), noLine(), letter('k'), assert(2)),
	"(?imsU-im)^.k$*":       cat(assert(1), everything(), one('k'), lazy(0, -1, assert(2))),
	"(?s:.(?m:.^(?-s:.$)))": cat(everything(), cat(everything(), assert(3), cat(noLine(), assert(4)))),
	"(?m)^|$|(?s).|^":       alt(assert(3), assert(4), everything(), assert(3)),
	"(?m:^)(?:^)(?m)^(^)":   cat(assert(3), assert(1), assert(3), group(1, assert(3))),

	// sets of no numbers
	`\P{Any}`: none(), `\p{^Any}`: none(), `\P{Any}*`: star(none()), `a\P{Any}|`: alt(cat(one('a'), none()), empty()), `(\P{Any})`: group(1, none()), `[^\x{0}-\x{10FFFF}]`: none(), `[^\d\D]{3}`: repeat(3, 3, none()), `[\P{Any}]`: none(), `(?i)\P{Any}[^\w\W]`: cat(none(), none()), `(?:[^[:ascii:][:^ascii:]])`: none(),
}

func TestShapes(t *testing.T) {
	for s, want := range shapes {
		parsed(t, s, 0, want)
	}
}

// A tree in parentheses is the same tree, and repeated it is a Sub as a whole.
func TestShapesInParentheses(t *testing.T) {
	for s, want := range shapes {
		if strings.HasPrefix(s, `\Q`) && !strings.Contains(s, `\E`) || s == `a*\Q*` {
			continue // the quotation would not end
		}
		parsed(t, "(?:"+s+")", 0, want)
		parsed(t, "(?-imsU:(?:"+s+"))", 15, want)
		parsed(t, "(?:"+s+")*", 0, star(want))
		parsed(t, "(?:"+s+"){2,3}?", 0, lazy(2, 3, want))
		parsed(t, "x(?:"+s+")y", 0, cat(one('x'), want, one('y')))
		parsed(t, "x|(?:"+s+")|y", 0, alt(one('x'), want, one('y')))
		parsed(t, "(?:"+s+")(?:x|y)z", 0, cat(want, alt(one('x'), one('y')), one('z')))
	}
}
