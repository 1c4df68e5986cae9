package ranges_test

import (
	"math"
	"math/rand/v2"
	"slices"
	"testing"

	"burin/api"
	"burin/ranges"
)

const (
	top   = api.MaxRune
	least = math.MinInt
	most  = math.MaxInt
)

type list = []api.Range

var everything = list{{Lo: 0, Hi: top}}

// of makes a list of the ends of its ranges.
func of(ends ...int) list {
	var l list
	for i := 0; i < len(ends); i += 2 {
		l = append(l, api.Range{Lo: ends[i], Hi: ends[i+1]})
	}
	return l
}

// holds says by the definition alone whether r is in the set of l.
func holds(l list, r int) bool {
	if r < 0 || r > top {
		return false
	}
	for _, x := range l {
		if x.Lo <= r && r <= x.Hi {
			return true
		}
	}
	return false
}

// model returns the normalized list of the integers for which in is true.
// What in says may change only where a range of ls begins or where one has ended.
func model(in func(int) bool, ls ...list) list {
	at := []int{0}
	for _, x := range slices.Concat(ls...) {
		at = append(at, max(0, min(x.Lo, top)), max(-1, min(x.Hi, top))+1)
	}
	slices.Sort(at)
	at = append(slices.Compact(at), top+1)
	var out list
	for i := 0; i < len(at)-1 && at[i] <= top; i++ {
		if !in(at[i]) {
			continue
		}
		hi := min(at[i+1]-1, top)
		if k := len(out) - 1; k >= 0 && out[k].Hi+1 == at[i] {
			out[k].Hi = hi
		} else {
			out = append(out, api.Range{Lo: at[i], Hi: hi})
		}
	}
	return out
}

// size adds up the lengths of the ranges of a normalized list.
func size(l list) int {
	n := 0
	for _, x := range l {
		n += x.Hi - x.Lo + 1
	}
	return n
}

// probes are the integers at which lists with these ends may err.
func probes(ls ...list) []int {
	l := []int{least, -1, 0, top, top + 1, most}
	for _, x := range slices.Concat(ls...) {
		for d := -1; d <= 1; d++ {
			l = append(l, x.Lo+d, x.Hi+d)
		}
	}
	return l
}

// edgy calls f with every list of up to n ranges whose ends are near 0 or api.MaxRune, or as far away as can be.
func edgy(n int, f func(list)) {
	ends := []int{least, -1, 0, 1, 2, top - 1, top, top + 1, most}
	var grow func(l list)
	grow = func(l list) {
		f(l)
		if len(l) == n {
			return
		}
		for _, lo := range ends {
			for _, hi := range ends {
				grow(append(l[:len(l):len(l)], api.Range{Lo: lo, Hi: hi}))
			}
		}
	}
	grow(nil)
}

// scattered returns a list of up to n ranges, from the same seed always the same, many of which touch or overlap.
func scattered(seed uint64, n int) list {
	rnd := rand.New(rand.NewPCG(seed, 2))
	base := []int{0, 20, top / 2, top - 20}[rnd.IntN(4)]
	var l list
	for range rnd.IntN(n + 1) {
		lo := base + rnd.IntN(60) - 20
		l = append(l, api.Range{Lo: lo, Hi: lo + rnd.IntN(12) - 3})
	}
	return l
}

func TestCheck(t *testing.T) {
	for i, c := range []struct {
		l    list
		want api.Code
	}{
		{nil, api.OK},
		{list{}, api.OK},
		{everything, api.OK},
		{of(0, 0), api.OK},
		{of(top, top), api.OK},
		{of(0, 0, 2, 2, 4, top), api.OK},
		{of(5, 7, 9, 9), api.OK},
		{of(0xD800, 0xDFFF), api.OK}, // a set of integers, runes or not
		{of(-1, 5), api.ErrRange},
		{of(-1, -1), api.ErrRange},
		{of(0, -1), api.ErrRange},
		{of(5, top+1), api.ErrRange},
		{of(top+1, top+1), api.ErrRange},
		{of(top+1, 5), api.ErrRange},
		{of(5, -1), api.ErrRange}, // of one range, ErrRange comes first
		{of(least, most), api.ErrRange},
		{of(most, least), api.ErrRange},
		{of(0, most), api.ErrRange},
		{of(least, 0), api.ErrRange},
		{of(1, 0), api.ErrShape},
		{of(top, 0), api.ErrShape},
		{of(5, 7, 8, 9), api.ErrShape}, // they touch
		{of(5, 7, 7, 9), api.ErrShape},
		{of(5, 7, 6, 6), api.ErrShape},
		{of(5, 7, 5, 7), api.ErrShape},
		{of(5, 7, 1, 2), api.ErrShape},
		{of(5, 7, 9, 8), api.ErrShape},
		{of(0, top, 0, 0), api.ErrShape},
		{of(0, top, top, top), api.ErrShape},
		{of(0, 1, 3, 4, 5, 6), api.ErrShape},
		{of(5, 7, 7, top+1), api.ErrRange}, // of one range, ErrRange comes first
		{of(5, 7, 0, -1), api.ErrRange},
		{of(0, top, top+2, top+3), api.ErrRange},
		{of(5, 7, 8, 9, -1, 0), api.ErrShape}, // of two ranges, the first
		{of(2, 1, -1, 0), api.ErrShape},
		{of(-1, 0, 2, 1), api.ErrRange},
		{of(5, 7, 0, most, 2, 1), api.ErrRange},
	} {
		if e := ranges.Check(c.l); e != c.want {
			t.Errorf("%d: Check(%v) = %d, want %d", i, c.l, int(e), int(c.want))
		}
	}
}

func TestCheckAcceptsExactlyWhatNormLeavesAsItIs(t *testing.T) {
	test := func(l list) {
		if e := ranges.Check(l); (e == api.OK) != slices.Equal(ranges.Norm(l), l) {
			t.Fatalf("Check(%v) = %d, and Norm gives %v", l, int(e), ranges.Norm(l))
		}
	}
	edgy(2, test)
	for seed := range uint64(2000) {
		test(scattered(seed, 3))
	}
}

func TestNorm(t *testing.T) {
	for i, c := range []struct{ l, want list }{
		{nil, nil},
		{list{}, nil},
		{everything, everything},
		{of(least, most), everything},
		{of(5, 7, 8, 9), of(5, 9)},
		{of(8, 9, 5, 7), of(5, 9)},
		{of(5, 7, 9, 9), of(5, 7, 9, 9)},
		{of(9, 9, 5, 7), of(5, 7, 9, 9)},
		{of(5, 7, 9, 9, 8, 8), of(5, 9)},
		{of(5, 7, 5, 7, 5, 7), of(5, 7)},
		{of(5, 9, 6, 7), of(5, 9)},
		{of(6, 7, 5, 9), of(5, 9)},
		{of(1, 9, 2, 3, 11, 12), of(1, 9, 11, 12)}, // the one within does not end the other
		{of(1, 9, 2, 3, 10, 12), of(1, 12)},
		{of(3, 5, 1, 4, 20, 30, 5, 6), of(1, 6, 20, 30)},
		{of(7, 5), nil},
		{of(7, 5, 1, 2, 6, 5), of(1, 2)},
		{of(6, 5, 5, 4), nil},
		{of(-5, -1), nil},
		{of(-5, 0), of(0, 0)},
		{of(-5, 3, 4, 4), of(0, 4)},
		{of(top+1, most), nil},
		{of(top, most), of(top, top)},
		{of(least, -1, top+1, most), nil},
		{of(-1, -1, 0, 0), of(0, 0)},
		{of(top, top, top+1, top+1), of(top, top)},
		{of(most, least), nil},
		{of(most, most, least, least), nil},
		{of(most, 0, 0, least), nil},
		{of(0, most, least, 0), everything},
		{of(0, 0, 2, 2, 1, 1), of(0, 2)},
	} {
		if got := ranges.Norm(c.l); !slices.Equal(got, c.want) {
			t.Errorf("%d: Norm(%v) = %v, want %v", i, c.l, got, c.want)
		}
	}
}

// describes holds what Norm, Count and Has tell of l, and that Norm's list is normalized, against the definition.
func describes(t *testing.T, l list) {
	want := model(func(r int) bool { return holds(l, r) }, l)
	got := ranges.Norm(l)
	if !slices.Equal(got, want) || ranges.Check(got) != api.OK {
		t.Fatalf("Norm(%v) = %v, want %v", l, got, want)
	}
	if n := ranges.Count(l); n != size(want) {
		t.Fatalf("Count(%v) = %d, want %d", l, n, size(want))
	}
	for _, r := range probes(l) {
		if ranges.Has(l, r) != holds(l, r) || ranges.Has(got, r) != holds(l, r) {
			t.Fatalf("Has(%v, %d) = %v, Has(%v, %d) = %v", l, r, ranges.Has(l, r), got, r, ranges.Has(got, r))
		}
	}
}

func TestListsAreDescribedAsDefined(t *testing.T) {
	edgy(2, func(l list) { describes(t, l) })
	for seed := range uint64(5000) {
		describes(t, scattered(seed, 12))
	}
}

func TestHas(t *testing.T) {
	l := of(20, 30, 7, 5, 25, 27, -9, 2, top, most, 20, 30)
	for _, c := range []struct {
		r    int
		want bool
	}{
		{0, true}, {2, true}, {3, false}, {5, false}, {6, false}, {7, false}, {19, false},
		{20, true}, {25, true}, {28, true}, {30, true}, {31, false}, {top - 1, false}, {top, true},
		{-1, false}, {-9, false}, {least, false}, {top + 1, false}, {most, false},
	} {
		if got := ranges.Has(l, c.r); got != c.want {
			t.Errorf("Has(%v, %d) = %v", l, c.r, got)
		}
	}
	if ranges.Has(nil, 0) || ranges.Has(list{}, 0) {
		t.Error("the set of no ranges has 0")
	}
	for _, r := range []int{least, -1, top + 1, most} {
		if ranges.Has(of(least, most), r) {
			t.Errorf("a set has %d", r)
		}
	}
}

func TestCount(t *testing.T) {
	for i, c := range []struct {
		l    list
		want int
	}{
		{nil, 0},
		{of(0, 0), 1},
		{of(5, 7), 3},
		{of(5, 7, 5, 7), 3},
		{of(5, 7, 6, 9), 5},
		{of(7, 5), 0},
		{of(-3, 1), 2},
		{of(top-1, most), 2},
		{of(least, -1, top+1, most), 0},
		{everything, 0x110000},
		{of(least, most, least, most), 0x110000},
	} {
		if n := ranges.Count(c.l); n != c.want {
			t.Errorf("%d: Count(%v) = %d, want %d", i, c.l, n, c.want)
		}
	}
}

func TestOperations(t *testing.T) {
	for i, c := range []struct{ a, b, union, both, minus list }{
		{nil, nil, nil, nil, nil},
		{of(1, 5), nil, of(1, 5), nil, of(1, 5)},
		{nil, of(1, 5), of(1, 5), nil, nil},
		{of(1, 5), of(1, 5), of(1, 5), of(1, 5), nil},
		{of(1, 5), of(3, 9), of(1, 9), of(3, 5), of(1, 2)},
		{of(3, 9), of(1, 5), of(1, 9), of(3, 5), of(6, 9)},
		{of(1, 9), of(3, 5), of(1, 9), of(3, 5), of(1, 2, 6, 9)},
		{of(3, 5), of(1, 9), of(1, 9), of(3, 5), nil},
		{of(1, 5), of(6, 9), of(1, 9), nil, of(1, 5)}, // they touch
		{of(6, 9), of(1, 5), of(1, 9), nil, of(6, 9)},
		{of(1, 5), of(7, 9), of(1, 5, 7, 9), nil, of(1, 5)},
		{of(1, 5), of(5, 9), of(1, 9), of(5, 5), of(1, 4)},
		{of(1, 5), of(1, 9), of(1, 9), of(1, 5), nil},
		{of(1, 9), of(1, 5), of(1, 9), of(1, 5), of(6, 9)},
		{of(1, 9), of(5, 9), of(1, 9), of(5, 9), of(1, 4)},
		{of(0, 0, 2, 2, 4, 4), of(1, 1, 3, 3), of(0, 4), nil, of(0, 0, 2, 2, 4, 4)},
		{of(0, 1, 4, 5, 8, 9), of(1, 8), of(0, 9), of(1, 1, 4, 5, 8, 8), of(0, 0, 9, 9)},
		{everything, of(5, 5), everything, of(5, 5), of(0, 4, 6, top)},
		{everything, everything, everything, everything, nil},
		{everything, of(0, 0, top, top), everything, of(0, 0, top, top), of(1, top-1)},
		{of(8, 9, 3, 1, 5, 7, 5, 6), of(9, 12, -4, -1, 7, 7), of(5, 12), of(7, 7, 9, 9), of(5, 6, 8, 8)},
		{of(least, 3), of(2, most), everything, of(2, 3), of(0, 1)},
		{of(least, most), of(most, least), everything, nil, everything},
		{of(-9, -1), of(top+1, most), nil, nil, nil},
		{of(5, 7), of(-9, -1, top+1, most, 7, 6), of(5, 7), nil, of(5, 7)},
	} {
		for _, o := range []struct {
			name      string
			got, want list
		}{
			{"Union", ranges.Union(c.a, c.b), c.union},
			{"Both", ranges.Both(c.a, c.b), c.both},
			{"Minus", ranges.Minus(c.a, c.b), c.minus},
		} {
			if !slices.Equal(o.got, o.want) {
				t.Errorf("%d: %s(%v, %v) = %v, want %v", i, o.name, c.a, c.b, o.got, o.want)
			}
		}
	}
}

func TestNot(t *testing.T) {
	for i, c := range []struct{ l, want list }{
		{nil, everything},
		{list{}, everything},
		{everything, nil},
		{of(least, most), nil},
		{of(most, least), everything},
		{of(7, 5), everything},
		{of(0, 9), of(10, top)},
		{of(10, top), of(0, 9)},
		{of(0, 0), of(1, top)},
		{of(top, top), of(0, top-1)},
		{of(1, top-1), of(0, 0, top, top)},
		{of(5, 5), of(0, 4, 6, top)},
		{of(9, 9, 5, 7), of(0, 4, 8, 8, 10, top)},
		{of(5, 7, 8, 9, 6, 6), of(0, 4, 10, top)},
		{of(-9, 9), of(10, top)},
		{of(-9, -1, top+1, most), everything},
	} {
		if got := ranges.Not(c.l); !slices.Equal(got, c.want) {
			t.Errorf("%d: Not(%v) = %v, want %v", i, c.l, got, c.want)
		}
	}
}

// combines holds what the operations make of a and b against the definition.
func combines(t *testing.T, a, b list) {
	for _, o := range []struct {
		name string
		got  list
		in   func(r int) bool
	}{
		{"Union", ranges.Union(a, b), func(r int) bool { return holds(a, r) || holds(b, r) }},
		{"Both", ranges.Both(a, b), func(r int) bool { return holds(a, r) && holds(b, r) }},
		{"Minus", ranges.Minus(a, b), func(r int) bool { return holds(a, r) && !holds(b, r) }},
		{"Not, of the first alone", ranges.Not(a), func(r int) bool { return !holds(a, r) }},
	} {
		if want := model(o.in, a, b); !slices.Equal(o.got, want) || ranges.Check(o.got) != api.OK {
			t.Fatalf("%s(%v, %v) = %v, want %v", o.name, a, b, o.got, want)
		}
		for _, r := range probes(a, b) {
			if want := r >= 0 && r <= top && o.in(r); ranges.Has(o.got, r) != want {
				t.Fatalf("%s(%v, %v) = %v: whether it has %d must be %v", o.name, a, b, o.got, r, want)
			}
		}
	}
}

func TestListsAreCombinedAsDefined(t *testing.T) {
	edgy(1, func(a list) {
		edgy(1, func(b list) { combines(t, a, b) })
	})
	for seed := range uint64(5000) {
		combines(t, scattered(2*seed, 8), scattered(2*seed+1, 8))
	}
}

// chosen returns, one by one and backwards, those of nine integers at both ends whose bits are set in m.
func chosen(m int) list {
	var l list
	for i, r := range []int{top, top - 1, top - 3, 5, 4, 3, 2, 1, 0} {
		if m>>i&1 == 1 {
			l = append(l, api.Range{Lo: r, Hi: r})
		}
	}
	return l
}

func TestEveryTwoOfManySetsAreCombined(t *testing.T) {
	var norm [512]list
	for m := range norm {
		norm[m] = ranges.Norm(chosen(m))
	}
	for a := range norm {
		for b := range norm {
			u, o, n := ranges.Union(norm[a], norm[b]), ranges.Both(norm[a], norm[b]), ranges.Minus(norm[a], norm[b])
			if !slices.Equal(u, norm[a|b]) || !slices.Equal(o, norm[a&b]) || !slices.Equal(n, norm[a&^b]) {
				t.Fatalf("%v and %v: %v, %v, %v", norm[a], norm[b], u, o, n)
			}
		}
	}
}

// same fails unless all the lists are the first one.
func same(t *testing.T, law string, of list, others ...list) {
	t.Helper()
	for _, l := range others {
		if !slices.Equal(l, of) {
			t.Fatalf("%s: %v is not %v", law, l, of)
		}
	}
}

func TestLawsOfSets(t *testing.T) {
	laws := func(a, b, c list) {
		na, nb := ranges.Not(a), ranges.Not(b)
		union, both, minus := ranges.Union, ranges.Both, ranges.Minus
		same(t, "everything", everything, union(a, na), union(na, a), ranges.Not(nil), union(a, everything))
		same(t, "nothing", nil, both(a, na), both(na, a), minus(a, a), ranges.Not(everything), both(a, nil), minus(a, everything))
		same(t, "the set itself", ranges.Norm(a), ranges.Not(na), union(a, a), both(a, a), union(a, nil), union(nil, a),
			both(a, everything), both(everything, a), minus(a, nil), ranges.Norm(ranges.Norm(a)), union(both(a, b), minus(a, b)))
		same(t, "absorption", ranges.Norm(a), union(a, both(a, b)), both(a, union(a, b)))
		same(t, "complement", na, minus(everything, a))
		same(t, "union", union(a, b), union(b, a), ranges.Not(both(na, nb)), ranges.Norm(slices.Concat(a, b)))
		same(t, "both", both(a, b), both(b, a), ranges.Not(union(na, nb)))
		same(t, "minus", minus(a, b), both(a, nb), minus(a, both(a, b)))
		same(t, "association", union(union(a, b), c), union(a, union(b, c)))
		same(t, "association", both(both(a, b), c), both(a, both(b, c)))
		same(t, "distribution", both(a, union(b, c)), union(both(a, b), both(a, c)))
		same(t, "distribution", union(a, both(b, c)), both(union(a, b), union(a, c)))
		if ranges.Count(a)+ranges.Count(na) != top+1 {
			t.Fatalf("%v has %d integers, its complement %d", a, ranges.Count(a), ranges.Count(na))
		}
		if ranges.Count(a)+ranges.Count(b) != ranges.Count(union(a, b))+ranges.Count(both(a, b)) {
			t.Fatalf("%v and %v: counts", a, b)
		}
	}
	for seed := range uint64(1500) {
		laws(scattered(3*seed, 6), scattered(3*seed+1, 6), scattered(3*seed+2, 6))
	}
	edgy(1, func(l list) { laws(l, everything, of(1, 3)) })
}

// room returns a copy of l in front of elements that are none of the list's.
func room(l list) list {
	big := slices.Concat(l, of(0, top, 1, 1, -7, 7))
	return big[:len(l)]
}

// spoil overwrites a list with all the memory behind it.
func spoil(l list) {
	l = l[:cap(l)]
	for i := range l {
		l[i] = api.Range{Lo: -99, Hi: -100}
	}
}

func TestListsAreNeitherChangedNorShared(t *testing.T) {
	lists := []list{nil, of(5, 7), of(5, 7, 9, 12), of(5, 7, 8, 9), of(9, 12, 5, 7), of(-5, 7, 3, 2, 9, most), of(7, 5, 7, 5), everything, of(0, 3, 9, top)}
	for _, a := range lists {
		for _, b := range lists {
			for name, f := range map[string]func(a, b list) list{
				"Norm":  func(a, b list) list { return ranges.Norm(a) },
				"Not":   func(a, b list) list { return ranges.Not(a) },
				"Union": ranges.Union,
				"Both":  ranges.Both,
				"Minus": ranges.Minus,
				"Check": func(a, b list) list { ranges.Check(a); return nil },
				"Has":   func(a, b list) list { ranges.Has(a, 6); return nil },
				"Count": func(a, b list) list { ranges.Count(a); return nil },
			} {
				x, y := room(a), room(b)
				fullX, fullY := slices.Clone(x[:cap(x)]), slices.Clone(y[:cap(y)])
				first := f(x, y)
				want := slices.Clone(first)
				second := f(x, y)
				spoil(second)
				if !slices.Equal(x[:cap(x)], fullX) || !slices.Equal(y[:cap(y)], fullY) {
					t.Errorf("%s changes %v or %v, or gives out their memory", name, a, b)
				}
				spoil(x)
				spoil(y)
				if !slices.Equal(first, want) {
					t.Errorf("%s of %v and %v: the result shares memory", name, a, b)
				}
			}
		}
	}
}

func TestOneListAsBothArguments(t *testing.T) {
	l := of(9, 12, 5, 7, 8, 8)
	if u, o, m := ranges.Union(l, l), ranges.Both(l, l), ranges.Minus(l, l); !slices.Equal(u, of(5, 12)) || !slices.Equal(o, of(5, 12)) || len(m) != 0 {
		t.Errorf("Union, Both and Minus of %v with itself: %v, %v, %v", l, u, o, m)
	}
	whole := of(1, 2, 4, 5, 7, 8)
	if got := ranges.Minus(whole[1:], whole[:2]); !slices.Equal(got, of(7, 8)) {
		t.Errorf("Minus of overlapping parts of a list: %v", got)
	}
}

func TestLongLists(t *testing.T) {
	const n = 200_000
	var even, odd list
	for i := n - 1; i >= 0; i-- {
		even = append(even, api.Range{Lo: 2 * i, Hi: 2 * i})
		odd = append(odd, api.Range{Lo: 2*i + 1, Hi: 2*i + 1})
	}
	if got := ranges.Union(even, odd); !slices.Equal(got, of(0, 2*n-1)) {
		t.Errorf("the union of even and odd integers has %d ranges", len(got))
	}
	if got := ranges.Both(even, odd); len(got) != 0 {
		t.Errorf("%d ranges are of both even and odd integers", len(got))
	}
	if got := ranges.Norm(slices.Repeat(odd, 3)); len(got) != n || ranges.Check(got) != api.OK {
		t.Errorf("the odd integers, three times over, are normalized to %d ranges", len(got))
	}
	if got := ranges.Minus(of(0, 2*n-1), even); len(got) != n || ranges.Count(got) != n || ranges.Has(got, 2) || !ranges.Has(got, 3) {
		t.Errorf("without the even ones %d ranges are left", len(got))
	}
}
