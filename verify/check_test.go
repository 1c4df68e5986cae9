package verify_test

import (
	"math"
	"slices"
	"testing"

	"burin/api"
	"burin/verify"
)

// The example of the chapter, and the smallest programs.
func TestExamples(t *testing.T) {
	rejected(t, of(0, 2, split(0, 1)), errTarget)
	rejected(t, of(0, 2, split(0, 1), match()), errLoop)
	rejected(t, of(0, 2, split(0, 0)), errLoop)
	fields(t, accepted(t, of(0, 2, next(0))), of(0, 2, next(0)))
	fields(t, accepted(t, of(0, 2, match())), of(0, 2, match()))
	fields(t, accepted(t, of(0, 2, fail())), of(0, 2, fail()))
	// a* of chapter 17.
	fields(t, accepted(t, of(2, 2, match(), fail(), split(3, 0), bytes(97, 97, 2))), of(2, 2, match(), fail(), split(3, 0), bytes(97, 97, 2)))
}

// Programs that are not well formed are ErrProg, whatever else is wrong with them.
func TestNotWellFormed(t *testing.T) {
	rejected(t, code{}, errProg)
	rejected(t, of(0, 2), errProg)
	rejected(t, code{Insts: []inst{}, Slots: 2}, errProg)
	rejected(t, of(-1, 2, match()), errProg)
	rejected(t, of(maxProg, 2, match()), errProg)
	rejected(t, of(math.MaxInt, 2, match()), errProg)
	rejected(t, of(0, -1, match()), errProg)
	rejected(t, of(0, -2, match()), errProg)
	rejected(t, of(0, 65, match()), errProg)
	rejected(t, of(0, 66, match()), errProg)
	rejected(t, of(0, 2, made(maxProg+1, func(int) inst { return match() })...), errProg)
	wrong := []inst{
		{}, {Op: 7}, {Op: -1}, {Op: opMatch, X: 1}, {Op: opFail, Y: 1}, {Op: opMatch, Lo: 1},
		bytes(-1, 0, 0), bytes(0, 256, 0), bytes(2, 1, 0), bytes(0, 1, -1), bytes(0, 1, maxProg), {Op: opByte, Y: 1},
		split(-1, 0), split(0, -1), split(maxProg, 0), split(0, maxProg), {Op: opSplit, Lo: 1}, {Op: opSplit, Hi: 1},
		slot(-1, 1), slot(64, 1), slot(2, -1), slot(2, maxProg), {Op: opCap, Lo: 2, Hi: 3, X: 1}, {Op: opCap, Lo: 2, X: 1, Y: 1},
		assert(0, 1), assert(7, 1), assert(1, -1), assert(1, maxProg), {Op: opAssert, Lo: 1, Y: 1},
	}
	for _, x := range wrong {
		rejected(t, of(0, 2, x, match()), errProg)
		rejected(t, of(0, 2, match(), x), errProg)
		// A target, slots and a loop are wrong, too.
		rejected(t, of(9, 2, split(0, 0), x), errProg)
		rejected(t, of(0, 3, split(0, 9), x), errProg)
	}
}

// Where a program starts and to what its instructions lead is less than the number of its instructions.
func TestTargets(t *testing.T) {
	for _, number := range []int{1, 2, 3, 64, 65, 1000} {
		l := made(number, func(int) inst { return match() })
		for _, at := range []int{0, number - 1, number, number + 1, maxProg - 1} {
			want := fine
			if at >= number {
				want = errTarget
			}
			outcome(t, of(at, 2, l...), want)
			for _, where := range []int{0, number / 2, number - 1} {
				outcome(t, of(0, 2, replaced(l, where, next(at))...), want)
				if at == where {
					continue
				}
				for _, x := range []inst{slot(3, at), assert(6, at), split(at, at)} {
					outcome(t, of(0, 4, replaced(l, where, x)...), want)
				}
			}
		}
	}
}

// Each of the two targets of a split counts, whichever the other is.
func TestTargetsOfSplit(t *testing.T) {
	for x := range 5 {
		for y := range 5 {
			p := of(0, 2, next(0), split(x, y), match())
			switch {
			case x > 2 || y > 2:
				rejected(t, p, errTarget)
			case x == 1 || y == 1:
				rejected(t, p, errLoop)
			default:
				accepted(t, p)
			}
		}
	}
}

// In a program of the greatest length all targets of well-formed instructions are there.
func TestTargetsOfTheLongest(t *testing.T) {
	l := made(maxProg, func(i int) inst { return bytes(0, 9, maxProg-1-i) })
	accepted(t, of(maxProg-1, 2, l...))
	accepted(t, of(0, 64, replaced(l, 0, split(maxProg-1, maxProg-2))...))
	rejected(t, of(maxProg-1, 2, l[1:]...), errTarget)
	accepted(t, of(0, 2, l[1:]...))
	rejected(t, of(0, 2, l[:maxProg-1]...), errTarget)
}

// outcome holds Check and New of p against an error, or against none.
func outcome(t *testing.T, p code, want api.Code) {
	t.Helper()
	if want == fine {
		accepted(t, p)
		return
	}
	rejected(t, p, want)
}

// replaced returns l with x in place of the instruction that is there.
func replaced(l []inst, at int, x inst) []inst {
	l = slices.Clone(l)
	l[at] = x
	return l
}

// The number of slots is even and at least 2; that of an instruction is from 2 to one below it.
func TestSlots(t *testing.T) {
	for slots := 0; slots <= maxSlots; slots++ {
		good := slots >= 2 && slots%2 == 0
		if p := of(0, slots, match()); good {
			accepted(t, p)
		} else {
			rejected(t, p, errSlot)
		}
		for at := range maxSlots {
			for _, p := range []code{of(0, slots, slot(at, 1), match()), of(1, slots, match(), slot(2, 0), slot(at, 1))} {
				if good && 2 <= at && at < slots {
					fields(t, accepted(t, p), p)
				} else {
					rejected(t, p, errSlot)
				}
			}
		}
	}
}

// Numbers that are no slots of other instructions do not matter.
func TestOnlyCapsHaveSlots(t *testing.T) {
	for n := range maxSlots {
		accepted(t, of(0, 2, bytes(n, n, 0)))
		accepted(t, of(0, 2, bytes(n, 255, 1), match()))
		accepted(t, of(0, 2, assert(1+n%6, 1), match()))
	}
}

// The errors come in this order: ErrTarget, ErrSlot, ErrLoop; also if the instruction of a later one stands ahead.
func TestWhichError(t *testing.T) {
	rejected(t, of(3, 3, split(0, 0), slot(0, 0), match()), errTarget)
	rejected(t, of(0, 3, split(0, 0), slot(0, 0), next(3)), errTarget)
	rejected(t, of(0, 0, split(0, 0), slot(9, 0), split(0, 3)), errTarget)
	rejected(t, of(0, 2, split(0, 0), slot(2, 0), split(3, 0)), errTarget)
	rejected(t, of(0, 2, split(0, 0), slot(2, 3)), errTarget)
	rejected(t, of(0, 2, split(0, 0), assert(1, 2)), errTarget)
	rejected(t, of(0, 2, slot(0, 2), match()), errTarget)
	rejected(t, of(0, 2, slot(0, 0), match()), errSlot)
	rejected(t, of(0, 3, split(0, 0)), errSlot)
	rejected(t, of(0, 0, split(0, 1), split(1, 0)), errSlot)
	rejected(t, of(0, 2, split(0, 0), slot(2, 0)), errSlot)
	rejected(t, of(0, 4, split(0, 0), slot(1, 0)), errSlot)
	rejected(t, of(0, 4, split(0, 0), slot(3, 0)), errLoop)
}

// Instructions that lead to themselves: only one that consumes a byte may.
func TestOneInstruction(t *testing.T) {
	for _, x := range []inst{split(0, 0), assert(1, 0), assert(6, 0), slot(2, 0)} {
		rejected(t, of(0, 4, x), errLoop)
		rejected(t, of(1, 4, x, match()), errLoop)
	}
	rejected(t, of(0, 2, split(0, 1), match()), errLoop)
	rejected(t, of(0, 2, split(1, 0), match()), errLoop)
	rejected(t, of(1, 2, split(1, 0), match()), errLoop)
	accepted(t, of(0, 2, bytes(0, 0, 0)))
	accepted(t, of(0, 2, next(0)))
	accepted(t, of(1, 2, next(0), match()))
}

// Empty loops through two instructions and more, by X and by Y, reached from where the program starts or not.
func TestEmptyLoops(t *testing.T) {
	loops := [][]inst{
		{split(1, 2), split(0, 2), match()},
		{split(1, 2), split(2, 0), match()},
		{split(2, 1), split(2, 0), match()},
		{assert(1, 1), assert(2, 0), match()},
		{slot(2, 1), slot(3, 0), match()},
		{slot(2, 1), assert(5, 0), match()},
		{split(1, 3), slot(2, 2), assert(3, 0), match()},
		{assert(1, 2), match(), split(1, 3), slot(2, 0)},
		{match(), assert(1, 3), next(0), slot(2, 4), split(0, 1)},
		{split(1, 1), split(2, 2), split(3, 3), split(0, 0)},
		{split(1, 2), split(3, 4), split(5, 6), next(0), next(0), next(0), split(7, 1), slot(2, 2)},
	}
	for _, l := range loops {
		for start := range l {
			rejected(t, of(start, 4, l...), errLoop)
		}
		// A byte between its instructions is enough.
		for i, x := range l {
			p := of(0, 4, replaced(l, i, next(x.X))...)
			held(t, p)
		}
		// It counts also in front of and behind many instructions that are fine.
		long := append(made(100, func(i int) inst { return next(i) }), moved(l, 100)...)
		rejected(t, of(0, 4, long...), errLoop)
		rejected(t, of(0, 4, append(slices.Clone(l), made(100, func(i int) inst { return split(0, 1) })...)...), errLoop)
	}
}

// moved returns l with all targets that number greater.
func moved(l []inst, by int) []inst {
	l = slices.Clone(l)
	for i, x := range l {
		switch x.Op {
		case opSplit:
			l[i].X, l[i].Y = x.X+by, x.Y+by
		case opByte, opCap, opAssert:
			l[i].X = x.X + by
		}
	}
	return l
}

// Loops that consume a byte somewhere are fine, and so is one instruction that is led to in several ways.
func TestNoEmptyLoops(t *testing.T) {
	for _, l := range [][]inst{
		{split(1, 2), next(0), match()},
		{split(2, 1), next(0), match()},
		{assert(1, 1), slot(2, 2), next(0)},
		{next(1), next(2), next(0)},
		{split(1, 2), next(0), next(0), match()},
		{split(1, 1), split(2, 2), match()},
		{split(1, 2), split(3, 4), split(4, 3), match(), fail()},
		{split(1, 2), slot(2, 3), slot(3, 3), split(4, 5), match(), next(0)},
	} {
		for start := range l {
			held(t, of(start, 4, l...))
			if e := verify.Check(of(start, 4, l...)); e != fine {
				t.Errorf("%s: %d", text(l), e)
			}
		}
	}
}

// Long loops: all instructions of the longest program in one.
func TestLongestLoops(t *testing.T) {
	up := made(maxProg, func(i int) inst { return assert(1+i%6, (i+1)%maxProg) })
	down := made(maxProg, func(i int) inst { return split((i+maxProg-1)%maxProg, (i+maxProg-1)%maxProg) })
	for _, l := range [][]inst{up, down} {
		for _, at := range []int{0, 1, 63, 64, 2000, maxProg - 1} {
			rejected(t, of(at, 2, l...), errLoop)
			accepted(t, of(at, 2, replaced(l, at, next(l[at].X))...))
			accepted(t, of(0, 2, replaced(l, at, match())...))
			rejected(t, of(0, 2, replaced(replaced(l, at, match()), 100, split(100, 100))...), errLoop)
		}
	}
}
