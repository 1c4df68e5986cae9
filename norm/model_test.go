package norm_test

import (
	"math/big"
	"math/rand/v2"
	"reflect"
	"regexp"
	"slices"
	"strconv"
	"strings"
	"testing"

	"burin/api"
	"burin/norm"
	check "burin/tree"
)

// modelWeight is the weight of n by its definition, in numbers of any size, but at most 4001.
func modelWeight(n node) int {
	if w := bigWeight(n, 1); w.IsInt64() {
		return int(min(w.Int64(), 4001))
	}
	return 4001
}

func bigWeight(n node, depth int) *big.Int {
	number := func(x int) *big.Int { return big.NewInt(int64(x)) }
	sum := number(1)
	switch {
	case depth > 1000:
		return number(4001)
	case n.Kind < api.KGroup || n.Kind > api.KRepeat:
		return sum
	}
	part := number(0) // the weights of all Subs
	for _, sub := range n.Subs {
		part.Add(part, bigWeight(sub, depth+1))
	}
	if n.Kind != api.KRepeat {
		return sum.Add(sum, part)
	}
	low, high := number(max(n.Min, 0)), number(n.Max)
	sum.Add(sum, new(big.Int).Mul(low, part))
	if n.Max == -1 {
		return sum.Add(sum, part.Add(part, number(1)))
	}
	if n.Max > 0 && high.Cmp(low) > 0 {
		sum.Add(sum, new(big.Int).Mul(high.Sub(high, low), part.Add(part, number(2))))
	}
	return sum
}

// modelParts are the trees that stand one after another in the core of n: the definition in terms of lists.
func modelParts(n node) []node {
	switch n.Kind {
	case api.KEmpty:
		return nil
	case api.KGroup:
		return []node{group(n.Num, modelCore(n.Subs[0]))}
	case api.KCat:
		var l []node
		for _, sub := range n.Subs {
			l = append(l, modelParts(sub)...)
		}
		return l
	case api.KAlt:
		x := kind(api.KAlt)
		for _, sub := range n.Subs {
			x.Subs = append(x.Subs, choices(modelCore(sub))...)
		}
		return []node{x}
	case api.KRepeat:
		l := slices.Repeat(modelParts(n.Subs[0]), n.Min)
		if x := modelCore(n.Subs[0]); x.Kind != api.KEmpty && n.Max != n.Min {
			rest := map[bool]int{true: -1, false: n.Max - n.Min}[n.Max < 0]
			l = append(l, node{Kind: 9, Max: rest, Lazy: n.Lazy, Subs: []node{x}})
		}
		return l
	}
	return []node{n}
}

func modelCore(n node) node { return row(modelParts(n)) }

// Size, Depth and Nullable of chapter 6, but at any depth.

func modelSize(n node) int {
	size := 1
	for _, sub := range n.Subs {
		size += modelSize(sub)
	}
	return size
}

func modelDepth(n node) int {
	deepest := 0
	for _, sub := range n.Subs {
		deepest = max(deepest, modelDepth(sub))
	}
	return deepest + 1
}

func modelNullable(n node) bool {
	switch n.Kind {
	case api.KEmpty, api.KAssert:
		return true
	case api.KAlt:
		return slices.ContainsFunc(n.Subs, modelNullable)
	case api.KRepeat:
		return n.Min == 0 || modelNullable(n.Subs[0])
	case api.KGroup, api.KCat:
		for _, sub := range n.Subs {
			if !modelNullable(sub) {
				return false
			}
		}
		return true
	}
	return false
}

// modelCheck is what Check has to return, by the definition of a core.
func modelCheck(n node) api.Code {
	switch {
	case modelDepth(n) > 2000:
		return api.ErrDeep
	case modelSize(n) > 4000:
		return api.ErrSize
	case !modelIsCore(n):
		return api.ErrTree
	}
	return api.OK
}

func modelIsCore(n node) bool {
	if !modelFits(n) {
		return false
	}
	for _, sub := range n.Subs {
		if strings.Contains(map[int]string{7: "71", 8: "8", 9: "1"}[n.Kind], strconv.Itoa(sub.Kind)) || !modelIsCore(sub) {
			return false
		}
	}
	return true
}

// modelFits says whether the fields of n are those that its Kind has in a core.
func modelFits(n node) bool {
	if n.Kind < 1 || n.Kind > 9 {
		return false
	}
	v := reflect.ValueOf(n)
	for i := range v.NumField() {
		name, field := v.Type().Field(i).Name, v.Field(i)
		has := map[int]string{3: "Set", 5: "Num", 6: "Num Subs", 7: "Subs", 8: "Subs", 9: "Min Max Lazy Subs"}[n.Kind]
		zero := field.IsZero() || field.Kind() == reflect.Slice && field.Len() == 0
		if name != "Kind" && !slices.Contains(strings.Fields(has), name) && !zero {
			return false
		}
	}
	switch n.Kind {
	case api.KSet:
		last := -2
		for _, x := range n.Set {
			if x.Lo < last+2 || x.Hi < x.Lo || x.Hi > api.MaxRune {
				return false
			}
			last = x.Hi
		}
		return last >= 0
	case api.KAssert:
		return n.Num >= 1 && n.Num <= 6
	case api.KGroup:
		return n.Num >= 1 && n.Num <= 31 && len(n.Subs) == 1
	case api.KCat, api.KAlt:
		return len(n.Subs) > 1
	case api.KRepeat:
		return n.Min == 0 && (n.Max == -1 || n.Max >= 1 && n.Max <= 1000) && len(n.Subs) == 1
	}
	return true
}

// modelSlots is what Slots has to return.
func modelSlots(n node) int {
	slots := 2
	if n.Kind == api.KGroup {
		slots = max(2, 2*n.Num+2)
	}
	for _, sub := range n.Subs {
		slots = max(slots, modelSlots(sub))
	}
	return slots
}

// likeTheModel demands of all functions what the model says for n, a tree, and for its core.
func likeTheModel(t *testing.T, n node) (heavy bool) {
	t.Helper()
	w := modelWeight(n)
	weighs(t, n, w)
	likeTheModelAsACore(t, n)
	if w > heaviest {
		refused(t, n, api.ErrSize)
		return true
	}
	x := modelCore(n)
	cored(t, n, x)
	likeTheModelAsACore(t, x)
	// A core in which each group occurs once, numbered as in chapter 6, is its own core.
	if check.Check(x) == api.OK && modelWeight(x) <= heaviest {
		cored(t, x, x)
	}
	return false
}

// likeTheModelAsACore demands what the model says of any node for Check and Slots.
func likeTheModelAsACore(t *testing.T, n node) api.Code {
	t.Helper()
	want := modelCheck(n)
	if got := norm.Check(n); got != want {
		t.Errorf("Check(%s) = %d, want %d", cut(text(n)), int(got), int(want))
	}
	if got := norm.Slots(n); got != modelSlots(n) {
		t.Errorf("Slots(%s) = %d, want %d", cut(text(n)), got, modelSlots(n))
	}
	return want
}

// number gives the groups of n their numbers, and names that they have only once. If there are too many, it repeats the
// further ones once instead.
func number(n *node, last *int) {
	if n.Kind == api.KGroup && *last == 31 {
		*n = alone(n.Subs[0])
	}
	if n.Kind == api.KGroup {
		*last++
		n.Num = *last
		if n.Name != "" {
			n.Name += strconv.Itoa(*last)
		}
	}
	n.Subs = slices.Clone(n.Subs)
	for i := range n.Subs {
		number(&n.Subs[i], last)
	}
}

// numbered is n with the numbers of its groups.
func numbered(n node) node {
	last := 0
	number(&n, &last)
	return n
}

// ofSize visits all trees of that many nodes with these leaves, whose groups have no numbers yet.
func ofSize(size int, leaves []node, visit func(n node)) {
	if size == 1 {
		for _, n := range leaves {
			visit(n)
		}
		return
	}
	ofSize(size-1, leaves, func(n node) {
		visit(group(0, n))
		visit(named(0, "x", n))
		visit(star(n))
		visit(lazy(2, 3, n))
		visit(repeat(1, -1, n))
		visit(repeat(2, 2, n))
		visit(never(n))
	})
	rows(2, size-1, leaves, nil, func(subs []node) {
		visit(cat(subs...))
		visit(alt(subs...))
	})
}

// rows visits all lists of at least so many trees with that many nodes altogether.
func rows(least, size int, leaves, before []node, visit func(subs []node)) {
	if size == 0 && least <= 0 {
		visit(slices.Clone(before))
	}
	for first := 1; first <= size-max(least-1, 0); first++ {
		ofSize(first, leaves, func(n node) {
			rows(least-1, size-first, leaves, append(slices.Clip(before), n), visit)
		})
	}
}

func TestSmallTreesAreThoseOfTheModel(t *testing.T) {
	for _, c := range []struct {
		size   int
		leaves []node
	}{
		{6, []node{a()}},
		{5, []node{a(), empty()}},
		{4, []node{a(), empty(), none(), set('a', 'b'), anyByte(), assert(api.ALine)}},
	} {
		for size := 1; size <= c.size; size++ {
			ofSize(size, c.leaves, func(n node) { likeTheModel(t, numbered(n)) })
		}
	}
}

// someTree is a random tree of at most so many levels, with these numbers of repetitions.
func someTree(random *rand.Rand, levels int, times []int) node {
	some := func(l ...int) int { return l[random.IntN(len(l))] }
	n := node{Kind: 1 + random.IntN(5)}
	if levels > 1 && random.IntN(6) > 0 {
		n.Kind = 6 + random.IntN(4)
	}
	subs := 0
	switch n.Kind {
	case api.KSet:
		r := 'a' + random.IntN(3)
		n.Set = of(r, r+random.IntN(2))
	case api.KAssert:
		n.Num = 1 + random.IntN(6)
	case api.KGroup:
		n.Name = []string{"", "x", "Name_"}[random.IntN(3)]
		subs = 1
	case api.KCat, api.KAlt:
		subs = 2 + random.IntN(3)
	case api.KRepeat:
		n.Min = some(times...)
		n.Max = some(-1, n.Min, max(n.Min, some(times...)))
		n.Lazy = random.IntN(2) == 0
		subs = 1
	}
	for range subs {
		n.Subs = append(n.Subs, someTree(random, levels-1, times))
	}
	return n
}

func TestRandomTreesAreThoseOfTheModel(t *testing.T) {
	random := rand.New(rand.NewPCG(11, 1))
	count := map[bool]int{}
	for _, times := range [][]int{{0, 1}, {0, 0, 1, 1, 2, 3}, {0, 0, 1, 2, 5, 10, 30}, {0, 1, 100, 999, 1000}} {
		for range 3_000 {
			count[likeTheModel(t, numbered(someTree(random, 1+random.IntN(8), times)))]++
		}
	}
	if count[false] < 5_000 || count[true] < 250 {
		t.Errorf("%d trees have cores, %d are too heavy", count[false], count[true])
	}
}

// someNode is a random node of at most so many levels: mostly neither a tree nor a core.
func someNode(random *rand.Rand, levels int, kinds []int) node {
	numbers := []int{-2, -1, -1, 0, 0, 0, 0, 1, 1, 2, 3, 7, 31, 32, 1000, 1001, api.MaxRune}
	some := func(l []int) int { return l[random.IntN(len(l))] }
	n := node{Kind: some(kinds)}
	switch n.Kind {
	case api.KSet:
		n.Set = of(some(numbers), some(numbers))
	case api.KAssert, api.KGroup:
		n.Num = max(1, some(numbers))
	case api.KRepeat:
		n.Max = some(numbers)
	}
	if random.IntN(4) == 0 {
		switch random.IntN(6) {
		case 0:
			n.Set = of(some(numbers), some(numbers))
		case 1:
			n.Num = some(numbers)
		case 2:
			n.Name = []string{"x", "y", "1"}[random.IntN(3)]
		case 3:
			n.Min = some(numbers)
		case 4:
			n.Max = some(numbers)
		case 5:
			n.Lazy = true
		}
	}
	subs := map[int]int{6: 1, 7: 2, 8: 2, 9: 1}[n.Kind]
	if random.IntN(8) == 0 {
		subs = random.IntN(4)
	}
	for range subs * min(levels, 1) {
		n.Subs = append(n.Subs, someNode(random, levels-1, kinds))
	}
	return n
}

func TestAnyNodes(t *testing.T) {
	random := rand.New(rand.NewPCG(11, 2))
	count := map[api.Code]int{}
	for i := range 200_000 {
		kinds := []int{1, 2, 3, 4, 5, 6, 7, 8, 9}
		if i%4 == 0 {
			kinds = append(kinds, 0, -1, 10)
		}
		n := someNode(random, random.IntN(4), kinds)
		weighs(t, n, modelWeight(n))
		count[likeTheModelAsACore(t, n)]++
		switch e := check.Check(n); {
		case e != api.OK:
			refused(t, n, e)
		case modelWeight(n) > heaviest:
			refused(t, n, api.ErrSize)
		default:
			cored(t, n, modelCore(n))
		}
	}
	if count[api.OK] < 10_000 || count[api.ErrTree] < 10_000 {
		t.Errorf("%d nodes are cores, %d are none", count[api.OK], count[api.ErrTree])
	}
}

// spelling is a pattern of n for the library of Go, whose groups do not capture.
func spelling(n node) string {
	var parts []string
	for _, sub := range n.Subs {
		parts = append(parts, "(?:"+spelling(sub)+")")
	}
	switch n.Kind {
	case api.KNone:
		return `[^\x00-\x{10FFFF}]`
	case api.KSet:
		return "[" + string(rune(n.Set[0].Lo)) + "-" + string(rune(n.Set[0].Hi)) + "]"
	case api.KByte:
		return "(?s:.)" // the same for these texts
	case api.KAssert:
		return strings.Fields(`\A \z (?m:^) (?m:$) \b \B`)[n.Num-1]
	case api.KAlt:
		return strings.Join(parts, "|")
	case api.KRepeat:
		high := strings.Replace(strconv.Itoa(n.Max), "-1", "", 1)
		return parts[0] + "{" + strconv.Itoa(n.Min) + "," + high + "}" + map[bool]string{true: "?"}[n.Lazy]
	}
	return strings.Join(parts, "")
}

// repeatsNothing reports whether n repeats something nullable: there, the library itself finds other first matches for
// patterns that are the same by its own definition.
func repeatsNothing(n node) bool {
	return n.Kind == api.KRepeat && modelNullable(n.Subs[0]) || slices.ContainsFunc(n.Subs, repeatsNothing)
}

// A core matches what its tree matches: in the library of Go, which knows neither.
func TestCoresMatchWhatTreesMatch(t *testing.T) {
	texts := []string{""}
	for from := 0; len(texts) < 400; from++ {
		for _, c := range []string{"a", "b", "-", "\n"} {
			texts = append(texts, texts[from]+c)
		}
	}
	random := rand.New(rand.NewPCG(11, 3))
	compared := map[bool]int{}
	for range 4_000 {
		n := numbered(someTree(random, 2+random.IntN(4), []int{0, 1, 1, 2}))
		x, e := norm.Core(n)
		if e != api.OK || equal(x, n) {
			continue
		}
		whole := func(n node) *regexp.Regexp { return regexp.MustCompile(`\A(?:` + spelling(n) + `)\z`) }
		wholeN, wholeX := whole(n), whole(x)
		firstN, firstX := regexp.MustCompile(spelling(n)), regexp.MustCompile(spelling(x))
		exact := !repeatsNothing(n)
		compared[exact]++
		for _, s := range texts {
			if wholeN.MatchString(s) != wholeX.MatchString(s) {
				t.Fatalf("one of %s and its core %s matches %q", text(n), text(x), s)
			}
			if exact && !slices.Equal(firstN.FindStringIndex(s), firstX.FindStringIndex(s)) {
				t.Fatalf("%s and its core %s match different parts of %q", text(n), text(x), s)
			}
		}
	}
	if compared[true] < 500 || compared[false] < 500 {
		t.Errorf("only %d and %d trees were compared", compared[true], compared[false])
	}
}
