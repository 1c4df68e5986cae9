package fold_test

import (
	"math"
	"math/rand/v2"
	"slices"
	"testing"

	"burin/api"
	"burin/fold"
	"burin/ranges"
)

const (
	top   = api.MaxRune
	least = math.MinInt
	most  = math.MaxInt
)

type list = []api.Range

// of makes a list of the ends of its ranges.
func of(ends ...int) list {
	var l list
	for i := 0; i < len(ends); i += 2 {
		l = append(l, api.Range{Lo: ends[i], Hi: ends[i+1]})
	}
	return l
}

// capitals are the blocks of the simple pairs: the first and the last capital, and how far the small letters are away.
var capitals = [][3]int{
	{0x41, 0x5A, 0x20}, {0xC0, 0xD6, 0x20}, {0xD8, 0xDE, 0x20}, {0x391, 0x3A1, 0x20},
	{0x3A3, 0x3AB, 0x20}, {0x410, 0x42F, 0x20}, {0x400, 0x40F, 0x50},
}

// further are the pairs beside the simple ones.
var further = [][2]int{
	{0xFF, 0x178}, {0xB5, 0x39C}, {0x3C2, 0x3A3}, {0x212A, 0x4B}, {0x212B, 0xC5}, {0x17F, 0x53}, {0x2126, 0x3A9},
}

// pairs returns every pair of the document.
func pairs() [][2]int {
	l := slices.Clone(further)
	for _, c := range capitals {
		for r := c[0]; r <= c[1]; r++ {
			l = append(l, [2]int{r, r + c[2]})
		}
	}
	return l
}

// families returns for each number in a pair all that are connected with it, in ascending order.
func families() map[int][]int {
	all := map[int][]int{}
	for _, p := range pairs() {
		var whole []int
		for _, r := range p {
			whole = append(whole, r)
			whole = append(whole, all[r]...)
		}
		slices.Sort(whole)
		whole = slices.Compact(whole)
		for _, r := range whole {
			all[r] = whole
		}
	}
	return all
}

// want returns the family of r by the definition alone.
func want(all map[int][]int, r int) []int {
	if l := all[r]; l != nil {
		return l
	}
	return []int{r}
}

// farAway are integers that no pair may reach, some of which end in the bits of a letter.
var farAway = []int{
	-1, -2, -0x20, -0x41, -0x61, -0x212A, top, top + 1, top + 0x41, 1<<21 + 0x4B, 1<<32 + 0x41, 1<<32 + 0x6B, -1<<32 + 0x41, 1<<16 + 0x41, 1<<8 + 0x4B,
	math.MinInt32, math.MinInt32 + 0x41, math.MaxInt32, math.MaxUint32, math.MaxUint32 + 0x42,
	least, least + 1, least + 0x20, least + 0x41, least + 0x212A, most, most - 1, most - 0x20, most - 0x50, most - 0x20DF,
}

// everywhere calls f with every number from somewhat below 0 to somewhat beyond api.MaxRune, and with some far away.
func everywhere(f func(r int)) {
	for r := -0x3000; r <= top+0x3000; r++ {
		f(r)
	}
	for _, r := range farAway {
		f(r)
	}
}

// check holds what the functions of one number tell of r against its family.
func check(t *testing.T, r int, family []int) {
	t.Helper()
	if got := fold.Family(r); !slices.Equal(got, family) {
		t.Fatalf("Family(%X) = %X, want %X", r, got, family)
	}
	if got := fold.Least(r); got != family[0] {
		t.Fatalf("Least(%X) = %X, want %X", r, got, family[0])
	}
	next := family[0]
	for _, m := range slices.Backward(family) {
		if m > r {
			next = m
		}
	}
	if got := fold.Next(r); got != next {
		t.Fatalf("Next(%X) = %X, want %X", r, got, next)
	}
	for _, m := range family {
		if !fold.Same(r, m) || !fold.Same(m, r) {
			t.Fatalf("%X and %X are not the same", r, m)
		}
	}
}

func TestFamilies(t *testing.T) {
	for _, family := range [][]int{
		// the first and the last pair of each block
		{0x41, 0x61}, {0x5A, 0x7A}, {0xC0, 0xE0}, {0xD6, 0xF6}, {0xD8, 0xF8}, {0xDE, 0xFE},
		{0x391, 0x3B1}, {0x3A1, 0x3C1}, {0x3AB, 0x3CB}, {0x410, 0x430}, {0x42F, 0x44F}, {0x400, 0x450}, {0x40F, 0x45F},
		// what lies beside the blocks, and beside the small letters
		{0x40}, {0x5B}, {0x60}, {0x7B}, {0xBF}, {0xD7}, {0xDF}, {0xF7}, {0x390}, {0x3A2}, {0x3AC}, {0x3B0}, {0x3CC}, {0x3FF}, {0x460},
		// the further pairs, and what lies beside them
		{0xFF, 0x178}, {0xB5, 0x39C, 0x3BC}, {0x3A3, 0x3C2, 0x3C3}, {0x4B, 0x6B, 0x212A}, {0xC5, 0xE5, 0x212B}, {0x53, 0x73, 0x17F}, {0x3A9, 0x3C9, 0x2126},
		{0xB4}, {0xB6}, {0x100}, {0x177}, {0x179}, {0x17E}, {0x180}, {0x2125}, {0x2127}, {0x2129}, {0x212C},
		// neighbours of the members of the families of three
		{0x4A, 0x6A}, {0x4C, 0x6C}, {0x52, 0x72}, {0x54, 0x74}, {0xC4, 0xE4}, {0xC6, 0xE6}, {0x39B, 0x3BB}, {0x39D, 0x3BD}, {0x3A4, 0x3C4}, {0x3A8, 0x3C8}, {0x3AA, 0x3CA},
		// other numbers that are no letters, or letters that the document does not pair
		{0}, {1}, {0x20}, {0x21}, {0x30}, {0x39}, {0x7F}, {0x80}, {0xA0}, {0x101}, {0x130}, {0x131}, {0x370}, {0x386}, {0x3CD}, {0x461}, {0x1E9E}, {0xD800}, {0xDFFF}, {0xFFFF}, {0x10400},
	} {
		for _, r := range family {
			check(t, r, family)
		}
	}
}

func TestEveryNumberHasTheFamilyOfThePairs(t *testing.T) {
	all := families()
	everywhere(func(r int) { check(t, r, want(all, r)) })
}

func TestNext(t *testing.T) {
	for _, c := range [][2]int{
		{0x41, 0x61}, {0x61, 0x41}, {0x4B, 0x6B}, {0x6B, 0x212A}, {0x212A, 0x4B},
		{0xB5, 0x39C}, {0x39C, 0x3BC}, {0x3BC, 0xB5}, {0x3A3, 0x3C2}, {0x3C2, 0x3C3}, {0x3C3, 0x3A3},
		{0x178, 0xFF}, {0xFF, 0x178}, {0xD7, 0xD7}, {-1, -1}, {top, top}, {least, least}, {most, most},
	} {
		if got := fold.Next(c[0]); got != c[1] {
			t.Errorf("Next(%X) = %X, want %X", c[0], got, c[1])
		}
	}
}

func TestSame(t *testing.T) {
	all := families()
	l := slices.Clone(farAway)
	for r := -2; r <= 0x470; r++ {
		l = append(l, r)
	}
	for r := 0x2120; r <= 0x2130; r++ {
		l = append(l, r)
	}
	for _, a := range l {
		for _, b := range l {
			if got := fold.Same(a, b); got != slices.Contains(want(all, a), b) {
				t.Fatalf("Same(%X, %X) = %v", a, b, got)
			}
		}
	}
}

func TestFamiliesPartitionTheIntegers(t *testing.T) {
	everywhere(func(r int) {
		family := fold.Family(r)
		if !slices.Contains(family, r) {
			t.Fatalf("%X is not in its family %X", r, family)
		}
		for _, m := range family {
			if other := fold.Family(m); !slices.Equal(other, family) {
				t.Fatalf("%X is in the family %X of %X and in %X", m, family, r, other)
			}
		}
	})
}

func TestNextVisitsTheWholeFamilyAndReturns(t *testing.T) {
	everywhere(func(r int) {
		family := fold.Family(r)
		var visited []int
		m := r
		for range family {
			visited = append(visited, m)
			m = fold.Next(m)
		}
		slices.Sort(visited)
		if m != r || !slices.Equal(visited, family) {
			t.Fatalf("Next from %X visits %X and comes to %X; the family is %X", r, visited, m, family)
		}
	})
}

func TestFamilyIsNewMemory(t *testing.T) {
	for _, r := range []int{0x4B, 0x6B, 0x61, 0xFF, 0xD7, -1} {
		first := fold.Family(r)
		kept := slices.Clone(first)
		second := fold.Family(r)
		second = second[:cap(second)]
		for i := range second {
			second[i] = -99
		}
		if !slices.Equal(first, kept) || !slices.Equal(fold.Family(r), kept) {
			t.Errorf("Family(%X): the results share memory", r)
		}
	}
}

func TestClose(t *testing.T) {
	for i, c := range []struct{ l, want list }{
		{nil, nil},
		{list{}, nil},
		{of(0, top), of(0, top)},
		{of(least, most), of(0, top)},
		{of('0', '9'), of('0', '9')},
		{of('k', 'k'), of(0x4B, 0x4B, 0x6B, 0x6B, 0x212A, 0x212A)},
		{of('K', 'K'), of(0x4B, 0x4B, 0x6B, 0x6B, 0x212A, 0x212A)},
		{of(0x212A, 0x212A), of(0x4B, 0x4B, 0x6B, 0x6B, 0x212A, 0x212A)},
		{of('a', 'c'), of('A', 'C', 'a', 'c')},
		{of('A', 'C'), of('A', 'C', 'a', 'c')},
		{of('A', 'Z'), of('A', 'Z', 'a', 'z', 0x17F, 0x17F, 0x212A, 0x212A)},
		{of('a', 'z'), of('A', 'Z', 'a', 'z', 0x17F, 0x17F, 0x212A, 0x212A)},
		{of('X', 'b'), of('A', 'B', 'X', 'b', 'x', 'z')},
		{of('@', '['), of('@', '[', 'a', 'z', 0x17F, 0x17F, 0x212A, 0x212A)},
		{of('`', '{'), of('A', 'Z', '`', '{', 0x17F, 0x17F, 0x212A, 0x212A)},
		{of(0x5B, 0x60), of(0x5B, 0x60)},
		{of(0xD7, 0xD7), of(0xD7, 0xD7)},
		{of(0xF7, 0xF7), of(0xF7, 0xF7)},
		{of(0xD6, 0xD8), of(0xD6, 0xD8, 0xF6, 0xF6, 0xF8, 0xF8)},
		{of(0xF6, 0xF8), of(0xD6, 0xD6, 0xD8, 0xD8, 0xF6, 0xF8)},
		{of(0xDF, 0xDF), of(0xDF, 0xDF)},
		{of(0xFE, 0x100), of(0xDE, 0xDE, 0xFE, 0x100, 0x178, 0x178)},
		{of(0x178, 0x178), of(0xFF, 0xFF, 0x178, 0x178)},
		{of(0xB5, 0xB5), of(0xB5, 0xB5, 0x39C, 0x39C, 0x3BC, 0x3BC)},
		{of(0x3BC, 0x3BC), of(0xB5, 0xB5, 0x39C, 0x39C, 0x3BC, 0x3BC)},
		{of(0x3C2, 0x3C2), of(0x3A3, 0x3A3, 0x3C2, 0x3C3)},
		{of(0x3C3, 0x3C3), of(0x3A3, 0x3A3, 0x3C2, 0x3C3)},
		{of(0x3A2, 0x3A3), of(0x3A2, 0x3A3, 0x3C2, 0x3C3)},
		{of(0x212B, 0x212B), of(0xC5, 0xC5, 0xE5, 0xE5, 0x212B, 0x212B)},
		{of(0x17F, 0x17F), of('S', 'S', 's', 's', 0x17F, 0x17F)},
		{of(0x2126, 0x2126), of(0x3A9, 0x3A9, 0x3C9, 0x3C9, 0x2126, 0x2126)},
		{of(0x400, 0x42F), of(0x400, 0x45F)},
		{of(0x430, 0x45F), of(0x400, 0x45F)},
		{of(0x40F, 0x410), of(0x40F, 0x410, 0x430, 0x430, 0x45F, 0x45F)},
		{of(0x44F, 0x450), of(0x400, 0x400, 0x42F, 0x42F, 0x44F, 0x450)},
		{of(0x3FF, 0x3FF, 0x460, 0x460), of(0x3FF, 0x3FF, 0x460, 0x460)},
		// lists that are not normalized
		{of('c', 'a'), nil},
		{of('b', 'b', 'a', 'a', 'a', 'b'), of('A', 'B', 'a', 'b')},
		{of('a', 'a', 'B', 'B'), of('A', 'B', 'a', 'b')},
		{of('b', 'a', 'c', 'c', 0, -1), of('C', 'C', 'c', 'c')},
		{of('a', 'b', 'A', 'B'), of('A', 'B', 'a', 'b')},
		// ranges that lie outside
		{of(-5, -1), nil},
		{of(-0x61, -0x41), nil},
		{of(top+1, top+0x41), nil},
		{of(top+1, most), nil},
		{of(least, -1), nil},
		{of(1<<32+'A', 1<<32+'Z'), nil},
		{of(-5, 'A'), of(0, 'A', 'a', 'a')},
		{of(least, 'A', most, most), of(0, 'A', 'a', 'a')},
		{of(0x2130, most), of(0x2130, top)},
		{of(0x212A, most), of('K', 'K', 'k', 'k', 0xC5, 0xC5, 0xE5, 0xE5, 0x212A, top)},
		{of(most, least), nil},
		{of(top, most), of(top, top)},
		{of(0xD800, 0xDFFF), of(0xD800, 0xDFFF)},
	} {
		if got := fold.Close(c.l); !slices.Equal(got, c.want) {
			t.Errorf("%d: Close(%X) = %X, want %X", i, c.l, got, c.want)
		}
	}
}

// closed returns by the definition alone the list of all members of the families of the numbers in the set of l.
func closed(all map[int][]int, l list) list {
	out := slices.Clone(l)
	for _, x := range l {
		for r := range all {
			if x.Lo <= r && r <= x.Hi {
				for _, m := range all[r] {
					out = append(out, api.Range{Lo: m, Hi: m})
				}
			}
		}
	}
	return ranges.Norm(out)
}

// closes holds what Close makes of l against the definition.
func closes(t *testing.T, all map[int][]int, l list) {
	t.Helper()
	got := fold.Close(l)
	if want := closed(all, l); !slices.Equal(got, want) || ranges.Check(got) != api.OK {
		t.Fatalf("Close(%X) = %X, want %X", l, got, want)
	}
	if again := fold.Close(got); !slices.Equal(again, got) {
		t.Fatalf("Close(%X) = %X, and of that %X", l, got, again)
	}
}

func TestCloseOfEveryPartOfTheBlocks(t *testing.T) {
	all := families()
	for r := -2; r <= 0x2200; r++ {
		closes(t, all, of(r, r))
	}
	for _, c := range capitals {
		for _, away := range []int{0, c[2]} {
			for lo := c[0] + away - 1; lo <= c[1]+away+1; lo++ {
				for hi := lo - 1; hi <= c[1]+away+1; hi++ {
					closes(t, all, of(lo, hi))
				}
			}
		}
	}
}

// near returns integers at which Close may err: those at the ends of the blocks and in the further pairs, those beside them, and the greatest.
func near() []int {
	var l []int
	for _, c := range capitals {
		l = append(l, c[0], c[1], c[0]+c[2], c[1]+c[2])
	}
	for _, p := range further {
		l = append(l, p[0], p[1])
	}
	for _, r := range slices.Clone(l) {
		l = append(l, r-1, r+1)
	}
	return append(l, farAway...)
}

func TestCloseOfManyLists(t *testing.T) {
	all := families()
	ends := near()
	rnd := rand.New(rand.NewPCG(3, 3))
	for range 5000 {
		var l list
		for range rnd.IntN(7) {
			lo := ends[rnd.IntN(len(ends))]
			hi := lo + rnd.IntN(30) - 3
			if rnd.IntN(4) == 0 {
				hi = ends[rnd.IntN(len(ends))]
			}
			l = append(l, api.Range{Lo: lo, Hi: hi})
		}
		closes(t, all, l)
	}
}

func TestCloseContainsExactlyTheFamiliesOfMembers(t *testing.T) {
	for _, l := range []list{of('J', 'm'), of(0x3A2, 0x3C2), of(0x2126, 0x212B), of(-9, 0x178), of(0x450, most, 0xD7, 0xDF)} {
		got := fold.Close(l)
		for r := -0x10; r <= 0x3000; r++ {
			in := slices.ContainsFunc(fold.Family(r), func(m int) bool { return ranges.Has(l, m) })
			if ranges.Has(got, r) != in {
				t.Errorf("Close(%X) = %X: whether it has %X must be %v", l, got, r, in)
			}
		}
	}
}

func TestCloseNeitherChangesNorSharesTheList(t *testing.T) {
	for _, l := range []list{nil, of('k', 'k'), of('z', 'z', 'a', 'c', 'b', 'a'), of('0', '9'), of(-5, most), of(0, top), of(least, most, 'a', 'a')} {
		full := slices.Concat(l, of('q', 'q', 0, top, 7, -7))
		kept := slices.Clone(full)
		first := fold.Close(full[:len(l)])
		want := slices.Clone(first)
		second := fold.Close(full[:len(l)])
		second = second[:cap(second)]
		for i := range second {
			second[i] = api.Range{Lo: -99, Hi: -100}
		}
		if !slices.Equal(full, kept) {
			t.Errorf("Close changes %X, or gives out its memory", l)
		}
		clear(full)
		if !slices.Equal(first, want) {
			t.Errorf("Close(%X): the result shares memory", l)
		}
	}
}

func TestCloseOfLongLists(t *testing.T) {
	const n = 200_000
	var odd list
	for i := n - 1; i >= 0; i-- {
		odd = append(odd, api.Range{Lo: 2*i + 1, Hi: 2*i + 1})
	}
	got := fold.Close(odd)
	// What is added are even numbers, such as 212A, whose families have odd members.
	if ranges.Check(got) != api.OK || !ranges.Has(got, 0x212A) || ranges.Has(got, 0x212C) || ranges.Count(got) != n+len(evenWithOdd()) {
		t.Errorf("Close of %d odd numbers has %d ranges and %d numbers", n, len(got), ranges.Count(got))
	}
	if got := fold.Close(slices.Repeat(of('a', most, least, 'z'), n)); !slices.Equal(got, of(0, top)) {
		t.Errorf("Close of everything many times over: %X", got)
	}
}

// evenWithOdd returns the even numbers whose families have odd members.
func evenWithOdd() []int {
	var l []int
	for r, family := range families() {
		if r%2 == 0 && slices.ContainsFunc(family, func(m int) bool { return m%2 == 1 }) {
			l = append(l, r)
		}
	}
	return l
}
