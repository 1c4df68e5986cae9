package show_test

import (
	"slices"
	"strconv"
	"strings"
	"testing"

	"burin/api"
	"burin/parse"
	"burin/show"
)

const top = api.MaxRune

type node = api.Node

// of makes a list of the ends of its ranges.
func of(ends ...int) []api.Range {
	var l []api.Range
	for i := 0; i < len(ends); i += 2 {
		l = append(l, api.Range{Lo: ends[i], Hi: ends[i+1]})
	}
	return l
}

// The kinds of nodes.

func empty() node           { return node{Kind: 1} }
func none() node            { return node{Kind: 2} }
func set(ends ...int) node  { return node{Kind: 3, Set: of(ends...)} }
func one(r int) node        { return set(r, r) }
func anyByte() node         { return node{Kind: 4} }
func assert(num int) node   { return node{Kind: 5, Num: num} }
func cat(subs ...node) node { return node{Kind: 7, Subs: subs} }
func alt(subs ...node) node { return node{Kind: 8, Subs: subs} }

func group(num int, sub node) node { return node{Kind: 6, Num: num, Subs: []node{sub}} }

func named(num int, name string, sub node) node {
	return node{Kind: 6, Num: num, Name: name, Subs: []node{sub}}
}

func repeat(low, high int, sub node) node {
	return node{Kind: 9, Min: low, Max: high, Subs: []node{sub}}
}

func lazy(low, high int, sub node) node {
	return node{Kind: 9, Min: low, Max: high, Lazy: true, Subs: []node{sub}}
}

func star(sub node) node { return repeat(0, -1, sub) }

// The letters that the tests need most.

func a() node { return one('a') }
func b() node { return one('b') }
func c() node { return one('c') }

// equal reports whether two trees are the same in all fields. It is a part of the tests, so that these do not trust
// package tree, and has no limit of depth.
func equal(x, y node) bool {
	fields := x.Kind == y.Kind && x.Num == y.Num && x.Name == y.Name && x.Min == y.Min && x.Max == y.Max && x.Lazy == y.Lazy
	return fields && slices.Equal(x.Set, y.Set) && slices.EqualFunc(x.Subs, y.Subs, equal)
}

// text is a tree for a reader.
func text(n node) string {
	out := []string{"kind " + strconv.Itoa(n.Kind)}
	for _, f := range []struct {
		name  string
		value int
	}{{"num", n.Num}, {"min", n.Min}, {"max", n.Max}} {
		if f.value != 0 {
			out = append(out, f.name+" "+strconv.Itoa(f.value))
		}
	}
	if n.Name != "" {
		out = append(out, strconv.Quote(n.Name))
	}
	if n.Lazy {
		out = append(out, "lazy")
	}
	for _, x := range n.Set {
		out = append(out, strconv.FormatInt(int64(x.Lo), 16)+"-"+strconv.FormatInt(int64(x.Hi), 16))
	}
	for _, sub := range n.Subs {
		out = append(out, text(sub))
	}
	return "(" + strings.Join(out, " ") + ")"
}

// cut shortens a long text for a reader.
func cut(s string) string {
	if len(s) > 400 {
		return s[:200] + " ... " + s[len(s)-200:]
	}
	return s
}

// printed demands the pattern that Show returns for n, and that Parse maps it back to n.
func printed(t *testing.T, n node, want string) {
	t.Helper()
	s, e := show.Show(n)
	if s != want || e != api.OK {
		t.Errorf("Show(%s) = %q, %d, want %q, OK", cut(text(n)), cut(s), int(e), cut(want))
	}
	parsedBack(t, n, s)
}

// parsedBack demands that Parse maps s back to n.
func parsedBack(t *testing.T, n node, s string) {
	t.Helper()
	m, at, e := parse.Parse(s, 0)
	if !equal(m, n) || at != 0 || e != api.OK {
		t.Errorf("Parse(%q) = %s, %d, %d, want %s, 0, OK", cut(s), cut(text(m)), at, int(e), cut(text(n)))
	}
}

// refused demands an error of Show, with no pattern.
func refused(t *testing.T, n node, want api.Code) {
	t.Helper()
	if s, e := show.Show(n); s != "" || e != want {
		t.Errorf("Show(%s) = %q, %d, want no pattern, %d", cut(text(n)), cut(s), int(e), int(want))
	}
}

// tree is a tree and its pattern.
type tree struct {
	n node
	s string
}

// leaves are trees of one node.
var leaves = []tree{
	{empty(), "(?:)"},
	{none(), `[^\x{0}-\x{10ffff}]`},
	{anyByte(), `\C`},
	{assert(api.ABegin), `\A`}, {assert(api.AEnd), `\z`}, {assert(api.ALine), "(?m:^)"}, {assert(api.ALineEnd), "(?m:$)"}, {assert(api.AWord), `\b`}, {assert(api.ANoWord), `\B`},

	// characters: letters and digits, and those next to them
	{a(), "a"}, {one('z'), "z"}, {one('A'), "A"}, {one('Z'), "Z"}, {one('0'), "0"}, {one('9'), "9"}, {one('m'), "m"}, {one('Q'), "Q"}, {one('5'), "5"},
	{one('a' - 1), `\x{60}`}, {one('z' + 1), `\x{7b}`}, {one('A' - 1), `\x{40}`}, {one('Z' + 1), `\x{5b}`}, {one('0' - 1), `\x{2f}`}, {one('9' + 1), `\x{3a}`},
	{one('_'), `\x{5f}`}, {one(' '), `\x{20}`}, {one('\n'), `\x{a}`}, {one('-'), `\x{2d}`}, {one('.'), `\x{2e}`}, {one('*'), `\x{2a}`}, {one('?'), `\x{3f}`}, {one('('), `\x{28}`}, {one(')'), `\x{29}`}, {one('|'), `\x{7c}`}, {one('\\'), `\x{5c}`}, {one(']'), `\x{5d}`}, {one('^'), `\x{5e}`}, {one('$'), `\x{24}`}, {one('}'), `\x{7d}`},
	{one(0), `\x{0}`}, {one(1), `\x{1}`}, {one(9), `\x{9}`}, {one(0xF), `\x{f}`}, {one(0x10), `\x{10}`}, {one(0x7F), `\x{7f}`}, {one(0x80), `\x{80}`}, {one(0xE9), `\x{e9}`}, {one(0xFF), `\x{ff}`}, {one(0x100), `\x{100}`}, {one(0x212A), `\x{212a}`}, {one(0x660), `\x{660}`}, {one(0xABC), `\x{abc}`}, {one(0xDEF0), `\x{def0}`},
	{one(0xD800), `\x{d800}`}, {one(0xDFFF), `\x{dfff}`}, {one(0xFFFD), `\x{fffd}`}, {one(0xFFFF), `\x{ffff}`}, {one(0x10000), `\x{10000}`}, {one(0x98765), `\x{98765}`}, {one(0x10ABCD), `\x{10abcd}`}, {one(top - 1), `\x{10fffe}`}, {one(top), `\x{10ffff}`},
	{one('a' + 256), `\x{161}`}, {one('a' + 1<<16), `\x{10061}`}, // whose lowest byte is a letter

	// other sets: within the brackets letters and digits, too, are numbers
	{set('a', 'b'), `[\x{61}-\x{62}]`}, {set('0', '9'), `[\x{30}-\x{39}]`}, {set('a', 'z'), `[\x{61}-\x{7a}]`}, {set('a', 'a', 'c', 'c'), `[\x{61}\x{63}]`}, {set('a', 'b', 'd', 'd'), `[\x{61}-\x{62}\x{64}]`}, {set('a', 'a', 'c', 'd'), `[\x{61}\x{63}-\x{64}]`},
	{set('0', '9', 'A', 'Z', '_', '_', 'a', 'z'), `[\x{30}-\x{39}\x{41}-\x{5a}\x{5f}\x{61}-\x{7a}]`}, {set('K', 'K', 'k', 'k', 0x212A, 0x212A), `[\x{4b}\x{6b}\x{212a}]`},
	{set(0, 1), `[\x{0}-\x{1}]`}, {set(0, 0, top, top), `[\x{0}\x{10ffff}]`}, {set(top-1, top), `[\x{10fffe}-\x{10ffff}]`}, {set(0, 9, 11, top), `[\x{0}-\x{9}\x{b}-\x{10ffff}]`},
	{set(0, top), `[\x{0}-\x{10ffff}]`}, {set(0, top-1), `[\x{0}-\x{10fffe}]`}, {set(1, top), `[\x{1}-\x{10ffff}]`}, {set(0xD7FF, 0xE000), `[\x{d7ff}-\x{e000}]`}, {set(0xD800, 0xDFFF), `[\x{d800}-\x{dfff}]`},
	{set('-', '-', '[', '^'), `[\x{2d}\x{5b}-\x{5e}]`}, {set('^', '^', 'x', 'x'), `[\x{5e}\x{78}]`}, {set(':', ':', '[', '['), `[\x{3a}\x{5b}]`}, {set(1, 1, 3, 3, 5, 5, 7, 7), `[\x{1}\x{3}\x{5}\x{7}]`},
}

// shapes are trees of several nodes.
var shapes = []tree{
	// the document's example
	{cat(a(), alt(b(), empty())), "a(?:b|(?:))"},

	// groups
	{group(1, a()), "(a)"}, {group(1, empty()), "((?:))"}, {group(1, none()), `([^\x{0}-\x{10ffff}])`}, {group(1, assert(api.ALine)), "((?m:^))"}, {group(1, anyByte()), `(\C)`}, {group(1, cat(a(), b())), "(ab)"}, {group(1, alt(a(), b())), "(a|b)"}, {group(1, star(a())), "(a*)"}, {group(1, group(2, a())), "((a))"}, {group(1, cat(group(2, a()), group(3, group(4, b())))), "((a)((b)))"},
	{named(1, "x", a()), "(?P<x>a)"}, {named(1, "_", empty()), "(?P<_>(?:))"}, {named(1, "Group_1", alt(a(), b())), "(?P<Group_1>a|b)"}, {named(1, "x", named(2, "y", group(3, named(4, "X", cat(a(), b()))))), "(?P<x>(?P<y>((?P<X>ab))))"}, {named(1, strings.Repeat("n", 32), star(a())), "(?P<" + strings.Repeat("n", 32) + ">a*)"},
	{cat(group(1, a()), named(2, "x", b()), group(3, c())), "(a)(?P<x>b)(c)"}, {alt(group(1, a()), named(2, "x", b())), "(a)|(?P<x>b)"}, {star(group(1, a())), "(a)*"}, {star(named(1, "x", alt(a(), b()))), "(?P<x>a|b)*"}, {group(1, star(group(2, star(group(3, a()))))), "(((a)*)*)"},

	// one after another
	{cat(a(), b()), "ab"}, {cat(a(), b(), c(), one('1'), one('-')), `abc1\x{2d}`}, {cat(one('\\'), one('Q')), `\x{5c}Q`}, {cat(one('x'), one('{'), one('1'), one('}')), `x\x{7b}1\x{7d}`}, {cat(one('('), one('?'), one(':'), one(')')), `\x{28}\x{3f}\x{3a}\x{29}`}, {cat(empty(), empty()), "(?:)(?:)"}, {cat(none(), none()), `[^\x{0}-\x{10ffff}][^\x{0}-\x{10ffff}]`}, {cat(anyByte(), one('C')), `\CC`}, {cat(assert(1), assert(2), assert(3), assert(4), assert(5), assert(6)), `\A\z(?m:^)(?m:$)\b\B`}, {cat(set('a', 'b'), a(), set(0, top)), `[\x{61}-\x{62}]a[\x{0}-\x{10ffff}]`},
	{cat(a(), empty(), b()), "a(?:)b"}, {cat(empty(), a()), "(?:)a"}, {cat(a(), none()), `a[^\x{0}-\x{10ffff}]`}, {cat(star(a()), star(b())), "a*b*"}, {cat(a(), star(b())), "ab*"}, {cat(lazy(0, -1, a()), one('?')), `a*?\x{3f}`}, {cat(repeat(2, 2, a()), one('2')), "a{2}2"}, {cat(group(1, a()), b()), "(a)b"},
	{cat(cat(a(), b()), c()), "(?:ab)c"}, {cat(a(), cat(b(), c())), "a(?:bc)"}, {cat(cat(a(), b()), cat(b(), c())), "(?:ab)(?:bc)"}, {cat(alt(a(), b()), c()), "(?:a|b)c"}, {cat(a(), alt(b(), c())), "a(?:b|c)"}, {cat(a(), alt(b(), c()), a()), "a(?:b|c)a"}, {cat(cat(cat(a(), b()), c()), a()), "(?:(?:ab)c)a"}, {cat(cat(a(), alt(b(), c())), a()), "(?:a(?:b|c))a"}, {cat(cat(empty(), empty()), empty()), "(?:(?:)(?:))(?:)"},

	// alternatives
	{alt(a(), b()), "a|b"}, {alt(a(), b(), c()), "a|b|c"}, {alt(empty(), empty()), "(?:)|(?:)"}, {alt(empty(), a()), "(?:)|a"}, {alt(a(), empty(), b()), "a|(?:)|b"}, {alt(none(), none(), none()), `[^\x{0}-\x{10ffff}]|[^\x{0}-\x{10ffff}]|[^\x{0}-\x{10ffff}]`}, {alt(one('|'), assert(api.ALineEnd)), `\x{7c}|(?m:$)`}, {alt(anyByte(), set('a', 'b')), `\C|[\x{61}-\x{62}]`},
	{alt(cat(a(), b()), c()), "ab|c"}, {alt(a(), cat(b(), c())), "a|bc"}, {alt(cat(a(), b()), cat(b(), c())), "ab|bc"}, {alt(star(a()), b()), "a*|b"}, {alt(a(), lazy(1, -1, b())), "a|b+?"}, {alt(group(1, a()), group(2, b())), "(a)|(b)"},
	{alt(alt(a(), b()), c()), "(?:a|b)|c"}, {alt(a(), alt(b(), c())), "a|(?:b|c)"}, {alt(alt(a(), b()), alt(b(), c())), "(?:a|b)|(?:b|c)"}, {alt(alt(alt(a(), b()), c()), a()), "(?:(?:a|b)|c)|a"}, {alt(cat(a(), alt(b(), c())), a()), "a(?:b|c)|a"}, {alt(cat(a(), cat(b(), c())), a()), "a(?:bc)|a"}, {alt(a(), cat(alt(b(), c()), a())), "a|(?:b|c)a"}, {alt(alt(empty(), empty()), empty()), "(?:(?:)|(?:))|(?:)"},

	// repetitions
	{star(a()), "a*"}, {repeat(1, -1, a()), "a+"}, {repeat(0, 1, a()), "a?"}, {repeat(0, 0, a()), "a{0}"}, {repeat(1, 1, a()), "a{1}"}, {repeat(2, 2, a()), "a{2}"}, {repeat(10, 10, a()), "a{10}"}, {repeat(1000, 1000, a()), "a{1000}"}, {repeat(2, -1, a()), "a{2,}"}, {repeat(999, -1, a()), "a{999,}"}, {repeat(1000, -1, a()), "a{1000,}"}, {repeat(0, 2, a()), "a{0,2}"}, {repeat(0, 1000, a()), "a{0,1000}"}, {repeat(1, 2, a()), "a{1,2}"}, {repeat(2, 4, a()), "a{2,4}"}, {repeat(999, 1000, a()), "a{999,1000}"}, {repeat(1, 1000, a()), "a{1,1000}"},
	{lazy(0, -1, a()), "a*?"}, {lazy(1, -1, a()), "a+?"}, {lazy(0, 1, a()), "a??"}, {lazy(0, 0, a()), "a{0}?"}, {lazy(1, 1, a()), "a{1}?"}, {lazy(2, 2, a()), "a{2}?"}, {lazy(1000, 1000, a()), "a{1000}?"}, {lazy(2, -1, a()), "a{2,}?"}, {lazy(1000, -1, a()), "a{1000,}?"}, {lazy(0, 2, a()), "a{0,2}?"}, {lazy(0, 1000, a()), "a{0,1000}?"}, {lazy(1, 2, a()), "a{1,2}?"}, {lazy(2, 4, a()), "a{2,4}?"}, {lazy(999, 1000, a()), "a{999,1000}?"},
	{star(empty()), "(?:)*"}, {star(none()), `[^\x{0}-\x{10ffff}]*`}, {star(anyByte()), `\C*`}, {star(assert(api.ABegin)), `\A*`}, {star(assert(api.ALine)), "(?m:^)*"}, {repeat(0, 1, assert(api.ALineEnd)), "(?m:$)?"}, {lazy(2, 3, assert(api.ANoWord)), `\B{2,3}?`}, {star(one('*')), `\x{2a}*`}, {repeat(1, -1, set('a', 'b')), `[\x{61}-\x{62}]+`}, {repeat(0, 1, one(top)), `\x{10ffff}?`},
	{star(cat(a(), b())), "(?:ab)*"}, {lazy(0, 1, cat(a(), star(b()))), "(?:ab*)??"}, {star(alt(a(), b())), "(?:a|b)*"}, {repeat(2, 3, alt(a(), empty())), "(?:a|(?:)){2,3}"}, {star(star(a())), "(?:a*)*"}, {star(lazy(0, -1, a())), "(?:a*?)*"}, {lazy(0, -1, star(a())), "(?:a*)*?"}, {repeat(0, 1, repeat(1, -1, repeat(2, 2, a()))), "(?:(?:a{2})+)?"}, {star(repeat(0, 1, empty())), "(?:(?:)?)*"},
	{star(group(1, star(a()))), "(a*)*"}, {star(cat(star(a()), star(b()))), "(?:a*b*)*"}, {star(alt(star(a()), alt(b(), c()))), "(?:a*|(?:b|c))*"}, {cat(star(cat(a(), b())), star(alt(b(), c()))), "(?:ab)*(?:b|c)*"}, {alt(star(alt(a(), b())), star(cat(b(), c()))), "(?:a|b)*|(?:bc)*"},

	// much at once
	{cat(named(1, "k", alt(cat(a(), star(alt(b(), c()))), empty())), cat(lazy(2, -1, group(2, set('0', '9'))), alt(none(), alt(anyByte(), assert(api.AWord)))), one(' ')),
		`(?P<k>a(?:b|c)*|(?:))(?:([\x{30}-\x{39}]){2,}?(?:[^\x{0}-\x{10ffff}]|(?:\C|\b)))\x{20}`},
}

// all are the trees of both tables.
func all() []tree { return slices.Concat(leaves, shapes) }

func TestShow(t *testing.T) {
	for _, x := range all() {
		printed(t, x.n, x.s)
	}
}

// isOf reports whether a node is of one of some kinds.
func isOf(n node, kinds ...int) bool { return slices.Contains(kinds, n.Kind) }

// wrapped is the pattern of a tree as a part of another one that wraps these kinds.
func wrapped(x tree, kinds ...int) string {
	if isOf(x.n, kinds...) {
		return "(?:" + x.s + ")"
	}
	return x.s
}

// renumbered returns n with greater numbers of its groups.
func renumbered(n node, by int) node {
	if n.Kind == api.KGroup {
		n.Num += by
	}
	n.Subs = slices.Clone(n.Subs)
	for i, sub := range n.Subs {
		n.Subs[i] = renumbered(sub, by)
	}
	return n
}

func TestTreesInEveryPlace(t *testing.T) {
	for _, x := range all() {
		inCat, inAlt, inRepeat := wrapped(x, 7, 8), wrapped(x, 8), wrapped(x, 7, 8, 9)
		printed(t, cat(x.n, a()), inCat+"a")
		printed(t, cat(a(), x.n), "a"+inCat)
		printed(t, cat(b(), x.n, c()), "b"+inCat+"c")
		printed(t, alt(x.n, a()), inAlt+"|a")
		printed(t, alt(a(), x.n), "a|"+inAlt)
		printed(t, alt(b(), x.n, c()), "b|"+inAlt+"|c")
		printed(t, star(x.n), inRepeat+"*")
		printed(t, lazy(0, 1, x.n), inRepeat+"??")
		printed(t, repeat(3, 30, x.n), inRepeat+"{3,30}")
		printed(t, repeat(1, -1, alt(x.n, empty())), "(?:"+inAlt+"|(?:))+")
		printed(t, group(1, renumbered(x.n, 1)), "("+x.s+")")
		printed(t, group(1, group(2, renumbered(x.n, 2))), "(("+x.s+"))")
		printed(t, named(1, "other", renumbered(x.n, 1)), "(?P<other>"+x.s+")")
		printed(t, cat(named(1, "other", renumbered(x.n, 1)), a()), "(?P<other>"+x.s+")a")
	}
}

func TestTwoTrees(t *testing.T) {
	some := slices.Concat(leaves[:12], leaves[len(leaves)-8:], shapes)
	for _, x := range some {
		for _, y := range some {
			if strings.Contains(x.s, "<") || strings.Contains(y.s, "<") {
				continue // a name may stand only once
			}
			second := renumbered(y.n, strings.Count(x.s, "(")-strings.Count(x.s, "(?"))
			printed(t, cat(x.n, second), wrapped(x, 7, 8)+wrapped(y, 7, 8))
			printed(t, alt(x.n, second), wrapped(x, 8)+"|"+wrapped(y, 8))
		}
	}
}

// Every number, printed alone and as the end of a range.
func TestEveryNumber(t *testing.T) {
	for r := range top + 1 {
		hex := strconv.FormatInt(int64(r), 16)
		alone := `\x{` + hex + "}"
		if strings.Contains("0123456789ABCDEFGHIJKLMNOPQRSTUVWXYZabcdefghijklmnopqrstuvwxyz", string(rune(r))) && r < 128 {
			alone = string(rune(r))
		}
		if s, e := show.Show(one(r)); s != alone || e != api.OK {
			t.Fatalf("Show of %x = %q, %d, want %q", r, s, int(e), alone)
		}
		if r%101 == 0 || r < 0x300 || r > top-10 {
			printed(t, cat(one(r), a()), alone+"a")
			printed(t, set(min(r, top-2), top), `[\x{`+strconv.FormatInt(int64(min(r, top-2)), 16)+`}-\x{10ffff}]`)
			printed(t, set(0, max(r, 1)), `[\x{0}-\x{`+strconv.FormatInt(int64(max(r, 1)), 16)+"}]")
			if 2 < r && r < top-1 {
				printed(t, set(1, 1, r, r, top, top), `[\x{1}\x{`+hex+`}\x{10ffff}]`)
			}
		}
	}
}

// Every pair of numbers that a repetition may have, as far as they are small or great, lazy and not.
func TestEveryRepetition(t *testing.T) {
	for low := range api.MaxRepeat + 1 {
		if low > 30 && low < api.MaxRepeat-30 && low%97 != 0 {
			continue
		}
		for high := -1; high <= api.MaxRepeat; high++ {
			if high >= 0 && high < low {
				continue
			}
			s := "{" + strconv.Itoa(low) + "," + strconv.Itoa(high) + "}"
			switch {
			case high == low:
				s = "{" + strconv.Itoa(low) + "}"
			case high == -1:
				s = "{" + strconv.Itoa(low) + ",}"
			}
			short := map[string]string{"{0,}": "*", "{1,}": "+", "{0,1}": "?"}
			if short[s] != "" {
				s = short[s]
			}
			printed(t, repeat(low, high, a()), "a"+s)
			printed(t, cat(lazy(low, high, star(a())), b()), "(?:a*)"+s+"?b")
		}
	}
}
