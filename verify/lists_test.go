package verify_test

import (
	"slices"
	"testing"
)

// written are programs, with their order and what is reached of them.
var written = []struct {
	p              code
	order, reached []int
}{
	{of(0, 2, match()), []int{0}, []int{0}},
	{of(0, 2, next(0)), []int{0}, []int{0}},
	// The smallest number of those that can be taken comes first.
	{of(1, 2, match(), fail(), next(0)), []int{0, 1, 2}, []int{1}},
	{of(2, 2, match(), fail(), next(0)), []int{0, 1, 2}, []int{0, 2}},
	// a*: the loop leads to the byte and to the match.
	{of(2, 2, match(), fail(), split(3, 0), bytes(97, 97, 2)), []int{1, 2, 0, 3}, []int{0, 2, 3}},
	{of(3, 2, match(), fail(), split(3, 0), bytes(97, 97, 2)), []int{1, 2, 0, 3}, []int{0, 2, 3}},
	{of(0, 2, match(), fail(), split(3, 0), bytes(97, 97, 2)), []int{1, 2, 0, 3}, []int{0}},
	{of(1, 2, match(), fail(), split(3, 0), bytes(97, 97, 2)), []int{1, 2, 0, 3}, []int{1}},
	// What can be taken only now may have a smaller number than all others.
	{of(4, 2, match(), assert(1, 0), assert(2, 1), next(0), split(2, 3)), []int{4, 2, 1, 0, 3}, []int{0, 1, 2, 3, 4}},
	{of(3, 2, match(), assert(1, 0), assert(2, 1), next(0), split(2, 3)), []int{4, 2, 1, 0, 3}, []int{0, 3}},
	// All that lead to one are ahead of it.
	{of(0, 6, split(2, 1), slot(4, 4), slot(2, 3), slot(3, 4), match()), []int{0, 1, 2, 3, 4}, []int{0, 1, 2, 3, 4}},
	{of(1, 6, match(), split(3, 2), slot(4, 0), slot(2, 4), slot(3, 0)), []int{1, 2, 3, 4, 0}, []int{0, 1, 2, 3, 4}},
	{of(3, 6, match(), slot(2, 0), slot(3, 0), split(4, 5), split(2, 1), split(1, 2)), []int{3, 4, 5, 1, 2, 0}, []int{0, 1, 2, 3, 4, 5}},
	// Bytes do not matter for the order, but for what is reached.
	{of(0, 2, next(2), next(0), next(1)), []int{0, 1, 2}, []int{0, 1, 2}},
	{of(1, 2, next(2), next(1), next(1)), []int{0, 1, 2}, []int{1}},
	{of(3, 2, match(), next(0), next(1), next(2)), []int{0, 1, 2, 3}, []int{0, 1, 2, 3}},
	{of(2, 2, match(), next(0), next(1), next(2)), []int{0, 1, 2, 3}, []int{0, 1, 2}},
	// Both targets of a split are the same.
	{of(2, 2, match(), split(0, 0), split(1, 1)), []int{2, 1, 0}, []int{0, 1, 2}},
	// What is not reached has its place in the order, too.
	{of(4, 2, match(), split(0, 3), split(1, 0), next(4), match()), []int{2, 1, 0, 3, 4}, []int{4}},
}

func TestWrittenLists(t *testing.T) {
	for _, x := range written {
		c := accepted(t, x.p)
		fields(t, c, x.p)
		lists(t, c, x.p, x.order, x.reached)
		held(t, x.p)
	}
}

// small returns all instructions of a few kinds that lead to targets below a number.
func small(below int) []inst {
	out := []inst{match(), fail()}
	for x := range below {
		out = append(out, next(x), slot(2, x))
		for y := range below {
			out = append(out, split(x, y))
		}
	}
	return out
}

// programs calls f for each list of that many of these instructions.
func programs(number int, of []inst, f func(l []inst)) {
	l := make([]inst, number)
	var fill func(at int)
	fill = func(at int) {
		if at == number {
			f(l)
			return
		}
		for _, x := range of {
			l[at] = x
			fill(at + 1)
		}
	}
	fill(0)
}

// All programs of few instructions, also with targets that are just not there.
func TestAllSmallPrograms(t *testing.T) {
	for number := 1; number <= 3; number++ {
		programs(number, small(number+1), func(l []inst) {
			for start := range number + 1 {
				held(t, of(start, 4, l...))
			}
		})
	}
	programs(4, small(4)[1:], func(l []inst) { held(t, of(len(l)-1, 4, l...)) })
}

// Random programs, most of them without an empty loop.
func TestRandomPrograms(t *testing.T) {
	r := random(1)
	counts := map[string]int{}
	for i := range 30000 {
		p := anyProg(r, []int{5, 12, 40, 150}[i%4])
		if i%4 == 3 && i%64 != 3 {
			continue
		}
		switch modelCheck(p) {
		case fine:
			counts["fine"]++
		case errLoop:
			counts["loop"]++
		default:
			counts["else"]++
		}
		held(t, p)
	}
	if counts["fine"] < 10000 || counts["loop"] < 500 || counts["else"] != 0 {
		t.Error(counts)
	}
}

// Random programs with numbers changed: all errors come.
func TestChangedPrograms(t *testing.T) {
	r := random(2)
	numbers := []int{-1, 0, 1, 2, 3, 4, 5, 6, 7, 8, 9, 10, 11, 12, 63, 64, 255, 256, maxProg - 1, maxProg}
	counts := map[int]int{}
	for range 60000 {
		p := anyProg(r, 10)
		x := &p.Insts[r.IntN(len(p.Insts))]
		for range 1 + r.IntN(2) {
			*[]*int{&p.Start, &p.Slots, &x.Op, &x.Lo, &x.Hi, &x.X, &x.X, &x.Y, &x.Y}[r.IntN(9)] = numbers[r.IntN(len(numbers))]
		}
		counts[int(modelCheck(p))]++
		held(t, p)
	}
	for _, e := range []int{0, 130, 150, 151, 152} {
		if counts[e] < 500 {
			t.Error(counts)
		}
	}
}

// 16.3, said of the order itself: it has each instruction once, and each stands before those to which it leads without consuming a byte.
func TestOrderIsAnOrder(t *testing.T) {
	r := random(3)
	for range 300 {
		p := anyProg(r, maxProg)
		if len(modelLoopsFast(p.Insts)) > 0 {
			rejected(t, p, errLoop)
			continue
		}
		order := accepted(t, p).Order()
		at := make([]int, len(order))
		for i, n := range order {
			at[n] = i
		}
		sorted := slices.Sorted(slices.Values(order))
		if !slices.Equal(sorted, ascending(len(p.Insts))) {
			t.Fatalf("the order of %s does not have each instruction once", brief(p))
		}
		for i, x := range p.Insts {
			if x.Op == opByte {
				continue
			}
			for _, to := range modelLeads(x) {
				if at[i] >= at[to] {
					t.Fatalf("%d does not stand before %d in the order of %s", i, to, brief(p))
				}
			}
		}
	}
}

// modelLoopsFast returns an instruction that leads back to itself without consuming a byte, if there is one: by marks of what is
// on the way and of what is done.
func modelLoopsFast(l []inst) []int {
	const onTheWay, done = 1, 2
	marks := make([]int, len(l))
	var out []int
	var from func(i int)
	from = func(i int) {
		marks[i] = onTheWay
		if l[i].Op != opByte {
			for _, t := range modelLeads(l[i]) {
				if marks[t] == onTheWay {
					out = append(out, t)
				} else if marks[t] == 0 {
					from(t)
				}
			}
		}
		marks[i] = done
	}
	for i := range l {
		if marks[i] == 0 {
			from(i)
		}
	}
	return out
}

// 16.3: ErrLoop comes only if some instruction leads back to itself, and then always.
func TestLoopsLeadBack(t *testing.T) {
	r := random(4)
	for range 3000 {
		p := anyProg(r, 60)
		if loops, fast := modelLoops(p.Insts), modelLoopsFast(p.Insts); (len(loops) > 0) != (len(fast) > 0) {
			t.Fatalf("the two models differ for %s", brief(p))
		} else if len(loops) > 0 {
			rejected(t, p, errLoop)
		} else {
			accepted(t, p)
		}
	}
}

// ascending returns the numbers below that.
func ascending(below int) []int {
	var out []int
	for i := range below {
		out = append(out, i)
	}
	return out
}

func reversed(l []int) []int {
	l = slices.Clone(l)
	slices.Reverse(l)
	return l
}

// Programs of the greatest length, and those around the sizes of machine words.
func TestLongPrograms(t *testing.T) {
	for _, number := range []int{2, 63, 64, 65, 127, 128, 129, 1000, maxProg - 1, maxProg} {
		all := ascending(number)
		last := number - 1

		p := of(last, 2, made(number, func(int) inst { return match() })...)
		c := accepted(t, p)
		fields(t, c, p)
		lists(t, c, p, all, []int{last})

		p = of(0, 2, made(number, func(i int) inst { return next((i + 1) % number) })...)
		lists(t, accepted(t, p), p, all, all)

		up := made(number, func(i int) inst { return split(min(i+1, last), last) })
		p = of(1, 2, replaced(up, last, match())...)
		lists(t, accepted(t, p), p, all, all[1:])

		down := made(number, func(i int) inst { return split(0, max(i-1, 0)) })
		p = of(last, 2, replaced(down, 0, next(last))...)
		lists(t, accepted(t, p), p, reversed(all), all)
		p = of(last/2, 2, replaced(down, 0, match())...)
		lists(t, accepted(t, p), p, reversed(all), all[:last/2+1])
	}
}

// Far from one another: the last leads to the first of the rest, that to the last of the rest, and so on.
func TestOrderGoesBackAndForth(t *testing.T) {
	var want []int
	for low, high := 0, maxProg-1; low < high; low, high = low+1, high-1 {
		want = append(want, high, low)
	}
	l := make([]inst, maxProg)
	l[want[maxProg-1]] = match()
	for i, n := range want[:maxProg-1] {
		l[n] = assert(1+i%6, want[i+1])
	}
	p := of(want[0], 2, l...)
	lists(t, accepted(t, p), p, want, ascending(maxProg))
	p.Start = want[maxProg-1]
	lists(t, accepted(t, p), p, want, want[maxProg-1:])
}
