package tree_test

import (
	"reflect"
	"regexp"
	"slices"
	"strconv"
	"strings"
	"testing"

	"burin/api"
	"burin/tree"
)

// names is what a name looks like.
var names = regexp.MustCompile(`\A[A-Za-z_][A-Za-z_0-9]{0,31}\z`)

func TestName(t *testing.T) {
	full := strings.Repeat("x", api.MaxName)
	for _, s := range []string{"x", "X", "_", "a1", "_1", "__", "Az09_", "zZ", "aA0", full, full[1:], "_" + full[1:], full[1:] + "9", strings.ToUpper(full)} {
		if !tree.Name(s) {
			t.Errorf("%q is no name", s)
		}
	}
	for _, s := range []string{"", "1", "1a", "9_", "0" + full[1:], " ", "a b", "a-b", "-", "a.", "\x00", "a\x00", "é", "aé", "\xFF", "a\n", "\n",
		full + "x", full + "\x00", full + full, strings.Repeat("_", 1<<16), full[1:] + "-", "-" + full[1:], full[1:] + "é"} {
		if tree.Name(s) {
			t.Errorf("%q is a name", s)
		}
	}
}

func TestNamesOfEveryByte(t *testing.T) {
	for b := range 256 {
		for before := range api.MaxName + 2 {
			for after := range 3 {
				s := strings.Repeat("n", before) + string([]byte{byte(b)}) + strings.Repeat("n", after)
				if got, want := tree.Name(s), names.MatchString(s); got != want {
					t.Errorf("Name(%q) = %v, want %v", s, got, want)
				}
			}
		}
	}
	for a := range 256 {
		for b := range 256 {
			s := string([]byte{byte(a), byte(b)})
			if got, want := tree.Name(s), names.MatchString(s); got != want {
				t.Errorf("Name(%q) = %v, want %v", s, got, want)
			}
		}
	}
}

// listed says which fields the nodes of a Kind have beside it.
func listed(k int) []string {
	switch k {
	case api.KSet:
		return []string{"Set"}
	case api.KAssert:
		return []string{"Num"}
	case api.KGroup:
		return []string{"Num", "Name", "Subs"}
	case api.KCat, api.KAlt:
		return []string{"Subs"}
	case api.KRepeat:
		return []string{"Min", "Max", "Lazy", "Subs"}
	}
	return nil
}

// normalized says whether l is a normalized list.
func normalized(l []api.Range) bool {
	for i, x := range l {
		if x.Lo < 0 || x.Lo > x.Hi || x.Hi > api.MaxRune || i > 0 && x.Lo-l[i-1].Hi < 2 {
			return false
		}
	}
	return true
}

// modelFits says whether the fields of n are those of its Kind.
func modelFits(n node) bool {
	if n.Kind < api.KEmpty || n.Kind > api.KRepeat {
		return false
	}
	v := reflect.ValueOf(n)
	for i := range v.NumField() {
		name, field := v.Type().Field(i).Name, v.Field(i)
		zero := field.IsZero() || field.Kind() == reflect.Slice && field.Len() == 0
		if name != "Kind" && !slices.Contains(listed(n.Kind), name) && !zero {
			return false
		}
	}
	switch n.Kind {
	case api.KSet:
		return normalized(n.Set) && len(n.Set) != 0
	case api.KAssert:
		return n.Num >= api.ABegin && n.Num <= api.ANoWord
	case api.KGroup:
		return n.Num >= 1 && len(n.Subs) == 1 && (n.Name == "" || names.MatchString(n.Name))
	case api.KCat, api.KAlt:
		return len(n.Subs) > 1
	case api.KRepeat:
		return n.Min >= 0 && n.Min <= 1000 && (n.Max == -1 || n.Max >= n.Min && n.Max <= 1000) && len(n.Subs) == 1
	}
	return true
}

// modelCheck checks a tree word by word as the document says it.
func modelCheck(n node) api.Code {
	if modelDepth(n) > api.MaxNest {
		return api.ErrDeep
	}
	var before []node // the groups
	for _, x := range flat(n, api.MaxNest) {
		if !modelFits(x.node) {
			return api.ErrTree
		}
		if x.node.Kind != api.KGroup {
			continue
		}
		previous := 0
		if len(before) > 0 {
			previous = before[len(before)-1].Num
		}
		if x.node.Num != previous+1 {
			return api.ErrTree
		}
		if x.node.Num > 31 {
			return api.ErrLong
		}
		if x.node.Name != "" && slices.ContainsFunc(before, func(g node) bool { return g.Name == x.node.Name }) {
			return api.ErrThere
		}
		before = append(before, x.node)
	}
	return api.OK
}

// checked demands that Check returns want, also for trees that contain n.
func checked(t *testing.T, what string, n node, want api.Code) {
	t.Helper()
	if got := tree.Check(n); got != want {
		t.Errorf("%s: Check = %d, want %d", what, got, want)
	}
	for name, outer := range map[string]node{
		"the first Sub": alt(n, empty()),
		"the last Sub":  cat(empty(), cat(letter('a'), n)),
		"the only Sub":  star(n),
	} {
		if tree.Depth(outer) > api.MaxNest {
			continue
		}
		if got := tree.Check(outer); got != want {
			t.Errorf("%s, as %s: Check = %d, want %d", what, name, got, want)
		}
	}
}

func TestCheckAcceptsTrees(t *testing.T) {
	for i, n := range valid() {
		checked(t, "tree "+strconv.Itoa(i), n, api.OK)
	}
}

func TestCheckRejectsOddNodes(t *testing.T) {
	for i, n := range odd() {
		checked(t, "node "+strconv.Itoa(i), n, api.ErrTree)
	}
}

// sample returns a valid node of each Kind.
func sample() map[int]node {
	return map[int]node{
		api.KEmpty:  empty(),
		api.KNone:   none(),
		api.KSet:    set('a', 'z'),
		api.KByte:   anyByte(),
		api.KAssert: assert(api.ABegin),
		api.KGroup:  group(1, "", empty()),
		api.KCat:    cat(empty(), empty()),
		api.KAlt:    alt(empty(), empty()),
		api.KRepeat: repeat(0, 1, false, empty()),
	}
}

func TestFieldsThatAKindDoesNotHave(t *testing.T) {
	changes := map[string][]func(*node){
		"Set":  {func(n *node) { n.Set = of('a', 'a') }, func(n *node) { n.Set = of(0, 0) }, func(n *node) { n.Set = of(1, 0) }},
		"Num":  {func(n *node) { n.Num = 1 }, func(n *node) { n.Num = -1 }, func(n *node) { n.Num = least }},
		"Name": {func(n *node) { n.Name = "x" }, func(n *node) { n.Name = " " }},
		"Min":  {func(n *node) { n.Min = 1 }, func(n *node) { n.Min = -1 }, func(n *node) { n.Min = most }},
		"Max":  {func(n *node) { n.Max = 1 }, func(n *node) { n.Max = -1 }, func(n *node) { n.Max = most }},
		"Lazy": {func(n *node) { n.Lazy = true }},
		"Subs": {func(n *node) { n.Subs = []node{empty()} }, func(n *node) { n.Subs = []node{{}} }, func(n *node) { n.Subs = []node{empty(), empty()} }},
	}
	for k, n := range sample() {
		checked(t, "Kind "+strconv.Itoa(k), n, api.OK)
		for field, l := range changes {
			if slices.Contains(listed(k), field) {
				continue
			}
			for i, change := range l {
				m := clone(n)
				change(&m)
				checked(t, "Kind "+strconv.Itoa(k)+" with "+field+" "+strconv.Itoa(i), m, api.ErrTree)
			}
		}
	}
}

func TestUnknownKinds(t *testing.T) {
	for _, k := range []int{0, -1, -9, 10, 11, 60, 256 + api.KEmpty, 1<<32 + api.KEmpty, least, most} {
		for _, n := range sample() {
			n.Kind = k
			checked(t, "Kind "+strconv.Itoa(k), n, api.ErrTree)
		}
		checked(t, "Kind "+strconv.Itoa(k), kind(k), api.ErrTree)
	}
}

func TestSetsThatAreNotNormalizedOrEmpty(t *testing.T) {
	for i, n := range []node{
		set(), {Kind: api.KSet, Set: []api.Range{}}, set(-1, 5), set(5, api.MaxRune+1), set(least, most), set(5, 4), set(0, -1),
		set(5, 7, 8, 9), set(5, 7, 7, 9), set(5, 7, 6, 6), set(8, 9, 5, 6), set(5, 6, 5, 6), set(1, 2, 4, 5, 6, 7),
		set(1, 2, 4, 5, 9, 8), set(1, 2, 4, 5, 7, most), set(-2, -2, 4, 5),
	} {
		checked(t, "set "+strconv.Itoa(i), n, api.ErrTree)
	}
	for i, n := range []node{set(0, 0), set(5, 7, 9, 9), set(0, 0, 2, 2, 4, 4), set(0, api.MaxRune-2, api.MaxRune, api.MaxRune)} {
		checked(t, "normalized set "+strconv.Itoa(i), n, api.OK)
	}
}

func TestBoundsOfAsserts(t *testing.T) {
	for num := -300; num <= 300; num++ {
		want := api.ErrTree
		if 1 <= num && num <= 6 {
			want = api.OK
		}
		checked(t, "assertion "+strconv.Itoa(num), assert(num), want)
	}
	checked(t, "the least number", assert(least), api.ErrTree)
	checked(t, "the greatest number", assert(most), api.ErrTree)
}

func TestBoundsOfRepeats(t *testing.T) {
	numbers := []int{least, -1000, -2, -1, 0, 1, 2, 3, 500, 998, 999, 1000, 1001, 1002, 5000, most}
	for _, low := range numbers {
		for _, high := range numbers {
			for _, lazy := range []bool{false, true} {
				want := api.ErrTree
				if 0 <= low && low <= 1000 && (high == -1 || low <= high && high <= 1000) {
					want = api.OK
				}
				checked(t, "repeat "+strconv.Itoa(low)+" "+strconv.Itoa(high), repeat(low, high, lazy, anyByte()), want)
			}
		}
	}
	checked(t, "the document's example", repeat(2, 1, false, letter('a')), api.ErrTree)
}

func TestNumbersOfSubs(t *testing.T) {
	for k, n := range sample() {
		for count := range 5 {
			n.Subs = nil
			for range count {
				n.Subs = append(n.Subs, empty())
			}
			want := api.ErrTree
			switch k {
			case api.KGroup, api.KRepeat:
				if count == 1 {
					want = api.OK
				}
			case api.KCat, api.KAlt:
				if count >= 2 {
					want = api.OK
				}
			default:
				if count == 0 {
					want = api.OK
				}
			}
			checked(t, "Kind "+strconv.Itoa(k)+" with "+strconv.Itoa(count)+" Subs", n, want)
		}
	}
}

func TestNumbersOfGroups(t *testing.T) {
	g := func(num int, subs ...node) node { return group(num, "", append(subs, empty())[0]) }
	for i, c := range []struct {
		n    node
		want api.Code
	}{
		{g(1), api.OK},
		{g(0), api.ErrTree},
		{g(2), api.ErrTree},
		{g(-1), api.ErrTree},
		{g(31), api.ErrTree},
		{g(32), api.ErrTree},
		{g(most), api.ErrTree},
		{g(least), api.ErrTree},
		{cat(g(1), g(2)), api.OK},
		{cat(g(1), g(1)), api.ErrTree}, // one repeats
		{cat(g(1), g(3)), api.ErrTree}, // one is skipped
		{cat(g(2), g(1)), api.ErrTree},
		{cat(g(1), g(2), g(4)), api.ErrTree},
		{cat(g(1), g(2), g(1)), api.ErrTree},
		{cat(g(1), g(2), g(2), g(3)), api.ErrTree},
		{g(1, g(2)), api.OK},
		{g(2, g(1)), api.ErrTree},
		{g(1, g(1)), api.ErrTree},
		{g(1, cat(g(2), g(3))), api.OK},
		{cat(g(1, g(2)), g(3)), api.OK}, // those within a group come before the next one
		{cat(g(1, g(3)), g(2)), api.ErrTree},
		{cat(g(1, g(2)), g(2)), api.ErrTree},
		{alt(cat(letter('a'), star(g(1))), cat(g(2), g(3, g(4)))), api.OK},
	} {
		checked(t, "groups "+strconv.Itoa(i), c.n, c.want)
	}
}

func TestNamesOfGroups(t *testing.T) {
	full := strings.Repeat("n", api.MaxName)
	for _, s := range []string{"", "x", "_", "a1", full} {
		checked(t, "the name "+s, group(1, s, empty()), api.OK)
	}
	for _, s := range []string{"1", "a-", " ", "é", "\x00", full + "n"} {
		checked(t, "the name "+s, group(1, s, empty()), api.ErrTree)
	}
	for b := range 256 {
		want := api.ErrTree
		if s := "x" + string([]byte{byte(b)}); names.MatchString(s) {
			want = api.OK
		}
		checked(t, "byte "+strconv.Itoa(b), group(1, "x"+string([]byte{byte(b)}), empty()), want)
	}
}

func TestEqualNames(t *testing.T) {
	g := func(num int, name string) node { return group(num, name, empty()) }
	for i, c := range []struct {
		n    node
		want api.Code
	}{
		{cat(g(1, "x"), g(2, "x")), api.ErrThere},
		{cat(g(1, "x"), g(2, "y"), g(3, "x")), api.ErrThere},
		{cat(g(1, "x"), g(2, ""), g(3, "x")), api.ErrThere},
		{cat(g(1, "y"), g(2, "x"), g(3, "x")), api.ErrThere},
		{group(1, "x", g(2, "x")), api.ErrThere},
		{group(1, "x", cat(g(2, "y"), g(3, "y"))), api.ErrThere},
		{cat(group(1, "x", g(2, "y")), g(3, "y")), api.ErrThere},
		{alt(g(1, "x"), star(g(2, "x"))), api.ErrThere},
		{cat(g(1, "x"), g(2, "X")), api.OK},
		{cat(g(1, "x"), g(2, "xx"), g(3, "x_")), api.OK},
		{cat(g(1, ""), g(2, ""), g(3, "")), api.OK},
		{cat(g(1, ""), g(2, "x"), g(3, "")), api.OK},
	} {
		checked(t, "names "+strconv.Itoa(i), c.n, c.want)
	}
}

func TestTooManyGroups(t *testing.T) {
	checked(t, "31 groups", groups(31), api.OK)
	checked(t, "32 groups", groups(32), api.ErrLong)
	checked(t, "40 groups", groups(40), api.ErrLong)
	nested := empty()
	for num := 32; num >= 1; num-- {
		nested = group(num, "", nested)
	}
	checked(t, "32 groups within one another", nested, api.ErrLong)
	checked(t, "without the last", cat(groups(1), empty()), api.OK)
}

func TestOrderOfTheChecksOfAGroup(t *testing.T) {
	for i, c := range []struct {
		last node // the 32nd group
		want api.Code
	}{
		{group(32, "", empty()), api.ErrLong},
		{group(32, "g1", empty()), api.ErrLong},     // too many, and there already
		{group(32, "no name", none()), api.ErrTree}, // no name, and too many
		{group(32, "", empty(), empty()), api.ErrTree},
		{group(32, ""), api.ErrTree},
		{group(33, "", empty()), api.ErrTree}, // skipped, and too many
		{group(31, "g1", empty()), api.ErrTree},
		{group(33, "g1", empty()), api.ErrTree},
		{node{Kind: api.KGroup, Num: 32, Min: 1, Subs: []node{empty()}}, api.ErrTree},
		{group(32, "", kind(0)), api.ErrLong}, // a group comes before what is in it
		{group(32, "g1", group(1, "g1", empty())), api.ErrLong},
	} {
		n := groups(31)
		n.Subs = append(n.Subs, c.last)
		checked(t, "last group "+strconv.Itoa(i), n, c.want)
	}
	for i, c := range []struct {
		second node
		want   api.Code
	}{
		{group(2, "x", empty()), api.ErrThere},
		{group(1, "x", empty()), api.ErrTree}, // repeated, and there already
		{group(3, "x", empty()), api.ErrTree},
		{group(2, "x"), api.ErrTree},
		{node{Kind: api.KGroup, Num: 2, Name: "x", Lazy: true, Subs: []node{empty()}}, api.ErrTree},
		{group(2, "x", kind(0)), api.ErrThere},
		{group(2, "y", kind(0)), api.ErrTree},
	} {
		checked(t, "second group "+strconv.Itoa(i), cat(group(1, "x", empty()), c.second), c.want)
	}
}

func TestTheFirstErrorInPreorderDecides(t *testing.T) {
	first, there, wrong := group(1, "x", empty()), group(2, "x", empty()), kind(0)
	long := groups(32)
	for i, c := range []struct {
		n    node
		want api.Code
	}{
		{cat(first, there, wrong), api.ErrThere},
		{cat(first, wrong, there), api.ErrTree},
		{cat(cat(first, there), wrong), api.ErrThere},
		{cat(first, cat(empty(), there), wrong), api.ErrThere},
		{cat(first, cat(wrong, there)), api.ErrTree},
		{cat(first, cat(there, wrong)), api.ErrThere},
		{cat(cat(star(star(wrong)), first), there), api.ErrTree},
		{cat(cat(first, there)), api.ErrTree}, // a node comes before its Subs
		{cat(long, wrong), api.ErrLong},
		{cat(wrong, long), api.ErrTree},
		{cat(long, group(33, "g1", empty())), api.ErrLong},
		{cat(groups(31), group(32, "", empty()), group(33, "g1", empty())), api.ErrLong},
		{cat(first, there, long), api.ErrThere},
		{repeat(1, 0, false, cat(first, there)), api.ErrTree},
		{repeat(0, 1, false, cat(first, there)), api.ErrThere},
		{group(1, "x", cat(group(2, "x", wrong), wrong)), api.ErrThere},
	} {
		checked(t, "errors "+strconv.Itoa(i), c.n, c.want)
	}
}

func TestDeepTreesAreRejectedFirst(t *testing.T) {
	for name, wrap := range map[string]func(node) node{
		"group":   inGroup,
		"repeat":  inRepeat,
		"cat":     inCat,
		"alt":     inAlt,
		"unknown": inUnknown,
		"empty":   func(n node) node { return node{Kind: api.KEmpty, Subs: []node{n}} },
	} {
		for levels := api.MaxNest - 3; levels <= api.MaxNest+3; levels++ {
			n := chain(levels, letter('a'), wrap)
			want := modelCheck(n)
			if (want == api.ErrDeep) != (levels >= api.MaxNest) {
				t.Fatal("the model itself fails")
			}
			if got := tree.Check(n); got != want {
				t.Errorf("%s, depth %d: Check = %d, want %d", name, levels+1, got, want)
			}
		}
	}
	for i, last := range []node{kind(0), set(), group(2, "", empty()), cat(empty())} {
		levels := api.MaxNest - tree.Depth(last)
		if got := tree.Check(chain(levels, last, star)); got != api.ErrTree {
			t.Errorf("%d: Check of an error at the greatest depth = %d, want ErrTree", i, got)
		}
	}
	tooDeep := chain(api.MaxNest, empty(), star)
	for i, n := range []node{
		tooDeep,
		cat(kind(0), tooDeep),
		cat(group(1, "x", empty()), group(2, "x", empty()), tooDeep),
		alt(groups(32), tooDeep, kind(0)),
		cat(empty(), chain(api.MaxNest-1, empty(), star)),
		kind(0, chain(api.MaxNest-1, kind(0), star)),
		chain(5000, empty(), star),
	} {
		if got := tree.Check(n); got != api.ErrDeep {
			t.Errorf("%d: Check = %d, want ErrDeep", i, got)
		}
	}
}

func TestCheckFollowsTheDefinition(t *testing.T) {
	seen := map[api.Code]int{}
	for _, n := range slices.Concat(all(), many(7), many(8), many(9)) {
		want := modelCheck(n)
		if got := tree.Check(n); got != want {
			t.Fatalf("Check of %s = %d, want %d", about(n), got, want)
		}
		seen[want]++
	}
	for _, e := range []api.Code{api.OK, api.ErrTree, api.ErrThere, api.ErrLong} {
		if seen[e] < 20 {
			t.Errorf("%d occurs only %d times", e, seen[e])
		}
	}
}
