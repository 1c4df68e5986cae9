package class_test

import (
	"regexp/syntax"
	"slices"
	"strings"
	"testing"
	"unicode"

	"burin/api"
	"burin/class"
	"burin/ranges"
)

const top = api.MaxRune

type list = []api.Range

// of makes a list of the ends of its ranges.
func of(ends ...int) list {
	var l list
	for i := 0; i < len(ends); i += 2 {
		l = append(l, api.Range{Lo: ends[i], Hi: ends[i+1]})
	}
	return l
}

// letterWant is the list of each letter class of a small letter.
var letterWant = map[byte]list{
	'd': of(0x30, 0x39),
	's': of(0x9, 0xA, 0xC, 0xD, 0x20, 0x20),
	'w': of(0x30, 0x39, 0x41, 0x5A, 0x5F, 0x5F, 0x61, 0x7A),
}

// colonWant is the list of each colon class.
var colonWant = map[string]list{
	"alnum":  of(0x30, 0x39, 0x41, 0x5A, 0x61, 0x7A),
	"alpha":  of(0x41, 0x5A, 0x61, 0x7A),
	"ascii":  of(0, 0x7F),
	"blank":  of(0x9, 0x9, 0x20, 0x20),
	"cntrl":  of(0, 0x1F, 0x7F, 0x7F),
	"digit":  of(0x30, 0x39),
	"graph":  of(0x21, 0x7E),
	"lower":  of(0x61, 0x7A),
	"print":  of(0x20, 0x7E),
	"punct":  of(0x21, 0x2F, 0x3A, 0x40, 0x5B, 0x60, 0x7B, 0x7E),
	"space":  of(0x9, 0xD, 0x20, 0x20),
	"upper":  of(0x41, 0x5A),
	"word":   of(0x30, 0x39, 0x41, 0x5A, 0x5F, 0x5F, 0x61, 0x7A),
	"xdigit": of(0x30, 0x39, 0x41, 0x46, 0x61, 0x66),
}

// propertyWant is the list of each property.
var propertyWant = map[string]list{
	"Any":   of(0, top),
	"Latin": of(0x41, 0x5A, 0x61, 0x7A, 0xAA, 0xAA, 0xBA, 0xBA, 0xC0, 0xD6, 0xD8, 0xF6, 0xF8, 0x24F),
	"Greek": of(0x370, 0x373, 0x375, 0x377, 0x37A, 0x37D, 0x37F, 0x37F, 0x384, 0x384, 0x386, 0x386, 0x388, 0x38A,
		0x38C, 0x38C, 0x38E, 0x3A1, 0x3A3, 0x3E1, 0x3F0, 0x3FF, 0x2126, 0x2126),
	"Cyrillic": of(0x400, 0x484, 0x487, 0x52F),
	"Lu":       of(0x41, 0x5A, 0xC0, 0xD6, 0xD8, 0xDE, 0x178, 0x178, 0x391, 0x3A1, 0x3A3, 0x3AB, 0x400, 0x42F),
	"Ll":       of(0x61, 0x7A, 0xB5, 0xB5, 0xDF, 0xF6, 0xF8, 0xFF, 0x17F, 0x17F, 0x3AC, 0x3CE, 0x430, 0x45F),
	// 3AC to 3CE and 3A3 to 3E1 overlap, and 3F0 to 3FF is followed by 400 to 484.
	"L": of(0x41, 0x5A, 0x61, 0x7A, 0xAA, 0xAA, 0xB5, 0xB5, 0xBA, 0xBA, 0xC0, 0xD6, 0xD8, 0xF6, 0xF8, 0x24F,
		0x370, 0x373, 0x375, 0x377, 0x37A, 0x37D, 0x37F, 0x37F, 0x384, 0x384, 0x386, 0x386, 0x388, 0x38A,
		0x38C, 0x38C, 0x38E, 0x3A1, 0x3A3, 0x3E1, 0x3F0, 0x484, 0x487, 0x52F, 0x2126, 0x2126),
	"Nd": of(0x30, 0x39, 0x660, 0x669, 0x6F0, 0x6F9, 0x966, 0x96F),
}

// others returns the list of the numbers in none of the ranges of l, which must be normalized.
func others(l list) list {
	var out list
	next := 0
	for _, x := range l {
		if next < x.Lo {
			out = append(out, api.Range{Lo: next, Hi: x.Lo - 1})
		}
		next = x.Hi + 1
	}
	if next <= top {
		out = append(out, api.Range{Lo: next, Hi: top})
	}
	return out
}

// lookUp is what Colon and Property have in common.
type lookUp = func(string) ([]api.Range, api.Code)

// holds demands that a call returned the list want.
func holds(t *testing.T, call string, got list, e api.Code, want list) {
	t.Helper()
	if e != api.OK || !slices.Equal(got, want) {
		t.Errorf("%s = %X, %d, want %X", call, got, e, want)
	}
	if code := ranges.Check(got); code != api.OK {
		t.Errorf("%s = %X is not normalized: %d", call, got, code)
	}
}

// fails demands that a call returned ErrClass and no list.
func fails(t *testing.T, call string, got list, e api.Code) {
	t.Helper()
	if e != api.ErrClass || len(got) != 0 {
		t.Errorf("%s = %X, %d, want ErrClass", call, got, e)
	}
}

func TestLetterOfEveryByte(t *testing.T) {
	for i := range 256 {
		c := byte(i)
		got, e := class.Letter(c)
		call := "Letter(" + string(rune(c)) + ")"
		small, isSmall := letterWant[c]
		// 20 is what lies between a capital and its small letter.
		capital, isCapital := letterWant[c+0x20]
		switch {
		case isSmall:
			holds(t, call, got, e, small)
		case isCapital:
			holds(t, call, got, e, others(capital))
		default:
			fails(t, call, got, e)
		}
	}
}

func TestLettersWithoutAClass(t *testing.T) {
	for _, c := range []byte{0, 1, '^', 'a', 'c', 'e', 'r', 't', 'v', 'x', 'z', 'A', 'C', 'E', 'R', 'T', 'V', 'X', 'Z', 'p', 'P', 'b', 'B', 'L', '0', '9', 'd' ^ 0x40, 'd' | 0x80, 'W' | 0x80, 0x80, 0xFF} {
		got, e := class.Letter(c)
		fails(t, "Letter("+string(rune(c))+")", got, e)
	}
}

// named holds a function against the lists of its classes, each with and without ^.
func named(t *testing.T, function string, call lookUp, want map[string]list) {
	for name, l := range want {
		got, e := call(name)
		holds(t, function+"("+name+")", got, e, l)
		got, e = call("^" + name)
		holds(t, function+"(^"+name+")", got, e, others(l))
	}
}

func TestColon(t *testing.T) { named(t, "Colon", class.Colon, colonWant) }

func TestProperty(t *testing.T) { named(t, "Property", class.Property, propertyWant) }

func TestExampleOfTheDocument(t *testing.T) {
	got, e := class.Colon("^digit")
	holds(t, "Colon(^digit)", got, e, of(0, 0x2F, 0x3A, 0x10FFFF))
}

func TestNothingIsLeftOfAny(t *testing.T) {
	got, e := class.Property("^Any")
	if e != api.OK || len(got) != 0 {
		t.Errorf("Property(^Any) = %X, %d, want the empty list and OK", got, e)
	}
}

// spoiled returns names that differ little from a name, and name no class.
func spoiled(name string) []string {
	l := []string{
		"^^" + name, "^^^" + name, name + "^", "^" + name + "^", " ^" + name, "^ " + name,
		" " + name, name + " ", "\t" + name, name + "\n", "\x00" + name, name + "\x00",
		"!" + name, "-" + name, "[:" + name + ":]", ":" + name + ":", "{" + name + "}", "p{" + name + "}", "\\" + name,
		name + name, name + "," + name, name + "x", "x" + name, "is" + name, name + "=yes",
		name + "\xFF", "\xFF" + name, "\xC3" + name, name + "\xE2\x82", "\xFF^" + name, "^\xFF" + name, "^\xC0\xDE" + name,
		"\xEF\xBB\xBF" + name, "\u02C6" + name, "\uFF3E" + name,
	}
	for i := range len(name) {
		// Each letter in the other case, with its upper bit set, and as a letter of its own beyond ASCII.
		for _, other := range []string{string(rune(name[i] ^ 0x20)), string([]byte{name[i] | 0x80}), string(rune(name[i]) + 0xFEE0)} {
			l = append(l, name[:i]+other+name[i+1:], "^"+name[:i]+other+name[i+1:])
		}
	}
	for i := 1; i < len(name); i++ {
		front, back := name[:i], name[i:]
		l = append(l, front, back, "^"+front, "^"+back, front+"^"+back, front+"-"+back, front+" "+back, front+"\xFF"+back)
	}
	upper, lower := strings.ToUpper(name), strings.ToLower(name)
	title := upper[:1] + lower[1:]
	return append(l, upper, lower, title, "^"+upper, "^"+lower, "^"+title)
}

// noNames name no class of either function.
var noNames = []string{
	"", "^", "^^", "^^^", " ", "^ ", "-", "30-39", "0-10FFFF", "9", "d", "s", "w", "D", "S", "W", "^d", "^W",
	"\\d", "any", "N", "P", "Z", "Lt", "Lm", "Lo", "L&", "LC", "Common", "Han", "Hebrew", "Letter", "Number", "letter", "number", "hex", "digits",
	"\x00", "^\x00", "\x80", "^\x80", "\xFF", "^\xFF", "\xFF^", "\xC0\x80", "\xED\xA0\x80", "\xF4\x90\x80\x80", "\u00E9", "\U0001F600",
}

func TestNoNames(t *testing.T) {
	for function, c := range map[string]struct {
		call lookUp
		own  map[string]list
		far  map[string]list
	}{
		"Colon":    {class.Colon, colonWant, propertyWant},
		"Property": {class.Property, propertyWant, colonWant},
	} {
		bad := slices.Clone(noNames)
		for name := range c.own {
			bad = append(bad, spoiled(name)...)
			bad = append(bad, strings.Repeat("^", 100_000)+name, strings.Repeat(name, 100_000))
		}
		for name := range c.far {
			bad = append(bad, name, "^"+name)
			bad = append(bad, spoiled(name)...)
		}
		for _, name := range bad {
			if _, isName := c.own[strings.TrimPrefix(name, "^")]; isName { // as L is what is left of Lu
				continue
			}
			got, e := c.call(name)
			fails(t, function+"("+name[:min(len(name), 40)]+")", got, e)
		}
	}
}

func TestNamesOfOneOrTwoBytes(t *testing.T) {
	hold := func(name string) {
		got, e := class.Colon(name)
		fails(t, "Colon("+name+")", got, e)
		got, e = class.Property(name)
		plain, complement := strings.CutPrefix(name, "^")
		want, isName := propertyWant[plain]
		switch {
		case !isName:
			fails(t, "Property("+name+")", got, e)
		case complement:
			holds(t, "Property("+name+")", got, e, others(want))
		default:
			holds(t, "Property("+name+")", got, e, want)
		}
	}
	for i := range 256 {
		hold(string([]byte{byte(i)}))
		for j := range 256 {
			hold(string([]byte{byte(i), byte(j)}))
		}
	}
}

func TestNames(t *testing.T) {
	want := []string{"Any", "Cyrillic", "Greek", "L", "Latin", "Ll", "Lu", "Nd"}
	got := class.Names()
	if !slices.Equal(got, want) {
		t.Errorf("Names() = %q, want %q", got, want)
	}
	for _, name := range got {
		if _, e := class.Property(name); e != api.OK {
			t.Errorf("Property(%s), which Names tells: %d", name, e)
		}
	}
}

// must returns the list of a class that there is.
func must(t *testing.T, call lookUp, name string) list {
	t.Helper()
	l, e := call(name)
	if e != api.OK {
		t.Fatalf("no class %s: %d", name, e)
	}
	return l
}

func TestComplements(t *testing.T) {
	apart := func(what string, a, b list) {
		if len(ranges.Both(a, b)) != 0 || !slices.Equal(ranges.Union(a, b), of(0, top)) || ranges.Count(a)+ranges.Count(b) != top+1 {
			t.Errorf("%s: %X and %X are no complements", what, a, b)
		}
	}
	letter := func(c byte) list {
		l, e := class.Letter(c)
		if e != api.OK {
			t.Errorf("Letter(%c): %d", c, e)
		}
		return l
	}
	for _, c := range []byte("dsw") {
		apart(string(rune(c)), letter(c), letter(c-0x20))
	}
	for name := range colonWant {
		apart(name, must(t, class.Colon, name), must(t, class.Colon, "^"+name))
	}
	for _, name := range class.Names() {
		apart(name, must(t, class.Property, name), must(t, class.Property, "^"+name))
	}
}

func TestClassesAreRelatedAsTheirDefinitionsSay(t *testing.T) {
	colon := func(name string) list { return must(t, class.Colon, name) }
	property := func(name string) list { return must(t, class.Property, name) }
	union := func(lists ...list) list { return ranges.Norm(slices.Concat(lists...)) }
	d, _ := class.Letter('d')
	s, _ := class.Letter('s')
	w, _ := class.Letter('w')
	ascii := colon("ascii")
	for what, c := range map[string]struct{ a, b list }{
		"d, digit":               {d, colon("digit")},
		"w, word":                {w, colon("word")},
		"s with B, space":        {union(s, of(0xB, 0xB)), colon("space")},
		"word, alnum with 5F":    {w, union(colon("alnum"), of(0x5F, 0x5F))},
		"alnum":                  {colon("alnum"), union(colon("alpha"), colon("digit"))},
		"alpha":                  {colon("alpha"), union(colon("upper"), colon("lower"))},
		"graph":                  {colon("graph"), union(colon("alnum"), colon("punct"))},
		"print":                  {colon("print"), union(colon("graph"), of(0x20, 0x20))},
		"ascii":                  {ascii, union(colon("print"), colon("cntrl"))},
		"punct without alnum":    {colon("punct"), ranges.Minus(colon("graph"), colon("alnum"))},
		"blank in space":         {colon("blank"), ranges.Both(colon("blank"), colon("space"))},
		"xdigit":                 {ranges.Both(colon("xdigit"), colon("^digit")), of('A', 'F', 'a', 'f')},
		"print without cntrl":    {nil, ranges.Both(colon("print"), colon("cntrl"))},
		"L":                      {property("L"), union(property("Lu"), property("Ll"), property("Latin"), property("Greek"), property("Cyrillic"))},
		"Lu without Ll":          {nil, ranges.Both(property("Lu"), property("Ll"))},
		"Any":                    {property("Any"), of(0, top)},
		"digit, ASCII of Nd":     {colon("digit"), ranges.Both(property("Nd"), ascii)},
		"upper, ASCII of Lu":     {colon("upper"), ranges.Both(property("Lu"), ascii)},
		"lower, ASCII of Ll":     {colon("lower"), ranges.Both(property("Ll"), ascii)},
		"alpha, ASCII of L":      {colon("alpha"), ranges.Both(property("L"), ascii)},
		"alpha, ASCII of Latin":  {colon("alpha"), ranges.Both(property("Latin"), ascii)},
		"Latin without Greek":    {nil, ranges.Both(property("Latin"), property("Greek"))},
		"Greek without Cyrillic": {nil, ranges.Both(property("Greek"), property("Cyrillic"))},
		"L without Nd":           {nil, ranges.Both(property("L"), property("Nd"))},
	} {
		if !slices.Equal(c.a, c.b) {
			t.Errorf("%s: %X, %X", what, c.a, c.b)
		}
	}
}

// library returns the list of a class in Go's own regular expressions.
func library(t *testing.T, pattern string) list {
	t.Helper()
	re, err := syntax.Parse(pattern, syntax.Perl)
	if err != nil || re.Op != syntax.OpCharClass {
		t.Fatalf("%s: %v, %v", pattern, re, err)
	}
	var l list
	for i := 0; i < len(re.Rune); i += 2 {
		l = append(l, api.Range{Lo: int(re.Rune[i]), Hi: int(re.Rune[i+1])})
	}
	return l
}

func TestLettersAndColonsAreThoseOfTheLibrary(t *testing.T) {
	for _, c := range []byte("dswDSW") {
		got, e := class.Letter(c)
		holds(t, "Letter("+string(rune(c))+")", got, e, library(t, "\\"+string(rune(c))))
	}
	for name := range colonWant {
		for _, name := range []string{name, "^" + name} {
			got, e := class.Colon(name)
			holds(t, "Colon("+name+")", got, e, library(t, "[[:"+name+":]]"))
		}
	}
}

// The document's properties are Unicode's, but within some blocks only: Nd, for one, lacks 7C0 to 7C9.
func TestPropertiesAreThoseOfTheLibraryWithinTheirBlocks(t *testing.T) {
	for name, c := range map[string]struct {
		table *unicode.RangeTable
		in    list
	}{
		"Latin":    {unicode.Latin, of(0, 0x24F)},
		"Greek":    {unicode.Greek, of(0, 0x3FF, 0x2126, 0x2126)},
		"Cyrillic": {unicode.Cyrillic, of(0, 0x52F)},
		"Lu":       {unicode.Lu, of(0, 0xFF, 0x178, 0x178, 0x391, 0x3AB, 0x400, 0x42F)},
		"Ll":       {unicode.Ll, of(0, 0xFF, 0x17F, 0x17F, 0x3AC, 0x3CE, 0x430, 0x45F)},
		"Nd":       {unicode.Nd, of(0, 0x6FF, 0x966, 0x96F)},
	} {
		got := must(t, class.Property, name)
		for r := -0x100; r <= top+0x100; r++ {
			want := slices.ContainsFunc(c.in, func(x api.Range) bool { return x.Lo <= r && r <= x.Hi }) && unicode.Is(c.table, rune(r))
			if ranges.Has(got, r) != want {
				t.Errorf("whether %s has %X must be %v", name, r, want)
			}
		}
	}
}

func TestListsAreNewMemory(t *testing.T) {
	calls := map[string]func() ([]api.Range, api.Code){}
	for _, c := range []byte("dswDSW") {
		calls[string(rune(c))] = func() ([]api.Range, api.Code) { return class.Letter(c) }
	}
	for name := range colonWant {
		calls[name] = func() ([]api.Range, api.Code) { return class.Colon(name) }
		calls["^"+name] = func() ([]api.Range, api.Code) { return class.Colon("^" + name) }
	}
	for name := range propertyWant {
		calls[name] = func() ([]api.Range, api.Code) { return class.Property(name) }
		calls["^"+name] = func() ([]api.Range, api.Code) { return class.Property("^" + name) }
	}
	all := map[string]list{}
	for name, call := range calls {
		l, _ := call()
		all[name] = slices.Clone(l)
	}
	for name, call := range calls {
		first, _ := call()
		second, _ := call()
		second = second[:cap(second)]
		for i := range second {
			second[i] = api.Range{Lo: -99, Hi: -100}
		}
		if !slices.Equal(first, all[name]) {
			t.Errorf("%s: the results share memory", name)
		}
	}
	for name, call := range calls {
		if l, _ := call(); !slices.Equal(l, all[name]) {
			t.Errorf("%s is %X after its results were overwritten, and was %X", name, l, all[name])
		}
	}
}

func TestNamesAreNewMemory(t *testing.T) {
	first := class.Names()
	want := slices.Clone(first)
	second := class.Names()
	second = second[:cap(second)]
	for i := range second {
		second[i] = "overwritten"
	}
	if !slices.Equal(first, want) || !slices.Equal(class.Names(), want) {
		t.Error("the results of Names share memory")
	}
	if _, e := class.Property("Any"); e != api.OK {
		t.Error("Property follows what was written to a result of Names")
	}
}
