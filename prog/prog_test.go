package prog_test

import (
	"math"
	"slices"
	"testing"

	"burin/api"
	"burin/prog"
)

// valid are instructions with valid fields: each field at its least and its greatest number, and others between them.
var valid = []inst{
	{Op: api.OByte}, {Op: api.OByte, Lo: 97, Hi: 99, X: 1}, {Op: api.OByte, Hi: 255}, {Op: api.OByte, Lo: 255, Hi: 255}, {Op: api.OByte, Lo: 255, Hi: 255, X: 3999}, {Op: api.OByte, Lo: 10, Hi: 10, X: 3999}, {Op: api.OByte, Hi: 1}, {Op: api.OByte, Lo: 254, Hi: 255, X: 2}, {Op: api.OByte, Lo: 9, Hi: 10, X: 10},
	{Op: api.OSplit}, {Op: api.OSplit, X: 3999}, {Op: api.OSplit, Y: 3999}, {Op: api.OSplit, X: 3999, Y: 3999}, {Op: api.OSplit, X: 3, Y: 2}, {Op: api.OSplit, X: 2, Y: 3}, {Op: api.OSplit, X: 256, Y: 1000}, {Op: api.OSplit, X: 7, Y: 7},
	{Op: api.OCap}, {Op: api.OCap, Lo: 63}, {Op: api.OCap, X: 3999}, {Op: api.OCap, Lo: 63, X: 3999}, {Op: api.OCap, Lo: 1, X: 2}, {Op: api.OCap, Lo: 2, X: 1}, {Op: api.OCap, Lo: 32, X: 100},
	{Op: api.OAssert, Lo: api.ABegin}, {Op: api.OAssert, Lo: api.AEnd}, {Op: api.OAssert, Lo: api.ALine}, {Op: api.OAssert, Lo: api.ALineEnd}, {Op: api.OAssert, Lo: api.AWord}, {Op: api.OAssert, Lo: api.ANoWord}, {Op: api.OAssert, Lo: 1, X: 3999}, {Op: api.OAssert, Lo: 6, X: 3999}, {Op: api.OAssert, Lo: 3, X: 12},
	{Op: api.OMatch}, {Op: api.OFail},
}

// faults are instructions without valid fields, each for one reason.
var faults = []inst{
	// operations that there are not
	{}, {Op: -1}, {Op: 7}, {Op: 8}, {Op: 10}, {Op: 256 + 5}, {Op: 1<<16 + 5}, {Op: 1<<32 + 5}, {Op: 1<<32 + 1, Lo: 1, Hi: 2}, {Op: math.MaxInt}, {Op: math.MinInt}, {Op: math.MinInt + 5}, {Op: -5}, {Op: -6}, {Lo: 1, X: 1}, {Op: 7, X: 1, Y: 1},

	// bytes
	{Op: 1, Lo: -1}, {Op: 1, Lo: -1, Hi: 255}, {Op: 1, Lo: -1, Hi: -1}, {Op: 1, Lo: math.MinInt}, {Op: 1, Lo: 256, Hi: 256}, {Op: 1, Lo: 256}, {Op: 1, Lo: 255, Hi: 256}, {Op: 1, Hi: 256}, {Op: 1, Hi: -1}, {Op: 1, Hi: math.MaxInt}, {Op: 1, Lo: 1}, {Op: 1, Lo: 99, Hi: 97, X: 1}, {Op: 1, Lo: 255, Hi: 254}, {Op: 1, Lo: 1 << 32, Hi: 1 << 32}, {Op: 1, Hi: 1 << 32}, {Op: 1, Lo: 0x212A, Hi: 0x212A},
	{Op: 1, Hi: 255, X: -1}, {Op: 1, Hi: 255, X: 4000}, {Op: 1, Hi: 255, X: math.MaxInt}, {Op: 1, Hi: 255, X: math.MinInt}, {Op: 1, Hi: 255, X: 1 << 32}, {Op: 1, Lo: 97, Hi: 99, X: 1, Y: 1}, {Op: 1, Hi: 255, Y: -1}, {Op: 1, Hi: 255, Y: 3999}, {Op: 1, Hi: 255, Y: 1 << 32},

	// splits
	{Op: 2, X: -1}, {Op: 2, X: 4000}, {Op: 2, Y: -1}, {Op: 2, Y: 4000}, {Op: 2, X: 4000, Y: 4000}, {Op: 2, X: math.MinInt}, {Op: 2, Y: math.MaxInt}, {Op: 2, Y: 1 << 32}, {Op: 2, Lo: 1, X: 1}, {Op: 2, Lo: -1}, {Op: 2, Hi: 1, Y: 1}, {Op: 2, Hi: -1}, {Op: 2, Lo: 1, Hi: 1}, {Op: 2, Hi: 255}, {Op: 2, Lo: 1 << 32}, {Op: 2, Hi: 1 << 32},

	// slots
	{Op: 3, Lo: -1}, {Op: 3, Lo: 64}, {Op: 3, Lo: 65, X: 1}, {Op: 3, Lo: math.MaxInt}, {Op: 3, Lo: math.MinInt}, {Op: 3, Lo: 1 << 32}, {Op: 3, Lo: 2, X: -1}, {Op: 3, Lo: 2, X: 4000}, {Op: 3, Lo: 2, X: math.MaxInt}, {Op: 3, Hi: 1}, {Op: 3, Lo: 2, Hi: 2}, {Op: 3, Lo: 2, Hi: 3, X: 1}, {Op: 3, Hi: -1}, {Op: 3, Lo: 2, X: 1, Y: 1}, {Op: 3, Y: -1}, {Op: 3, Y: 3999},

	// assertions
	{Op: 4}, {Op: 4, Lo: -1}, {Op: 4, Lo: 7}, {Op: 4, Lo: 8, X: 1}, {Op: 4, Lo: math.MaxInt}, {Op: 4, Lo: math.MinInt}, {Op: 4, Lo: 1<<32 + 1}, {Op: 4, X: 1}, {Op: 4, Lo: 1, X: -1}, {Op: 4, Lo: 1, X: 4000}, {Op: 4, Lo: 6, X: 4000}, {Op: 4, Lo: 1, X: math.MinInt}, {Op: 4, Lo: 1, Hi: 1}, {Op: 4, Lo: 1, Hi: 6}, {Op: 4, Lo: 6, Hi: -1}, {Op: 4, Lo: 1, Y: 1}, {Op: 4, Lo: 6, X: 1, Y: 3999}, {Op: 4, Lo: 6, Y: -1},

	// what has no fields
	{Op: 5, Lo: 1}, {Op: 5, Hi: 1}, {Op: 5, X: 1}, {Op: 5, Y: 1}, {Op: 5, Lo: -1}, {Op: 5, Hi: -1}, {Op: 5, X: -1}, {Op: 5, Y: -1}, {Op: 5, Lo: 1, Hi: 1, X: 1, Y: 1}, {Op: 5, X: math.MinInt}, {Op: 5, Y: 1 << 32},
	{Op: 6, Lo: 1}, {Op: 6, Hi: 1}, {Op: 6, X: 1}, {Op: 6, Y: 1}, {Op: 6, Lo: -1}, {Op: 6, Hi: -1}, {Op: 6, X: -1}, {Op: 6, Y: -1}, {Op: 6, Lo: 1, Hi: 1, X: 1, Y: 1}, {Op: 6, X: math.MaxInt}, {Op: 6, Lo: 1 << 32},
}

func TestFits(t *testing.T) {
	for _, x := range valid {
		if !prog.Fits(x) {
			t.Errorf("Fits(%+v) = false", x)
		}
	}
	for _, x := range faults {
		if prog.Fits(x) {
			t.Errorf("Fits(%+v) = true", x)
		}
	}
}

// Each operation with all numbers around the ends of fields, in each of its fields.
func TestFitsIsTheDefinition(t *testing.T) {
	l := edges()
	for _, op := range ops() {
		for _, low := range l {
			for _, high := range l {
				for _, x := range l {
					for _, y := range l {
						n := inst{Op: op, Lo: low, Hi: high, X: x, Y: y}
						if got := prog.Fits(n); got != modelFits(n) {
							t.Fatalf("Fits(%+v) = %t", n, got)
						}
					}
				}
			}
		}
	}
}

// Each number of each field, and some beyond.
func TestFitsOfEachNumber(t *testing.T) {
	for n := -70; n < 330; n++ {
		for m := -70; m < 330; m++ {
			for op := opByte; op <= opFail; op++ {
				if x := (inst{Op: op, Lo: n, Hi: m}); prog.Fits(x) != modelFits(x) {
					t.Fatalf("Fits(%+v) = %t", x, prog.Fits(x))
				}
			}
		}
	}
	for n := -4100; n < 8200; n++ {
		for op := range 9 {
			for _, x := range []inst{{Op: op, Lo: n}, {Op: op, Lo: n, Hi: n}, {Op: op, Lo: 1, Hi: n}, {Op: op, X: n}, {Op: op, Lo: 1, X: n}, {Op: op, Lo: 1, Hi: 2, X: n}, {Op: op, Y: n}, {Op: op, Lo: 1, Y: n}, {Op: op, Lo: 1, Hi: 2, Y: n}, {Op: op, X: n, Y: n}} {
				if prog.Fits(x) != modelFits(x) {
					t.Fatalf("Fits(%+v) = %t", x, prog.Fits(x))
				}
			}
		}
	}
}

// A program is as valid as its instructions, wherever in it they are.
func TestCheckOfInstructions(t *testing.T) {
	for _, x := range valid {
		shows(t, of(0, 2, x), modelText(of(0, 2, x)), true)
	}
	all := of(0, 2, valid...)
	shows(t, all, modelText(all), true)
	for _, x := range faults {
		for _, l := range [][]inst{{x}, {x, x}, {x, match()}, {match(), x}, {fail(), x, match()}, append(slices.Clone(valid), x), append([]inst{x}, valid...), append(many(split(0, 1), maxProg-1), x), append([]inst{x}, many(match(), maxProg-1)...)} {
			shows(t, of(0, 2, l...), "", false)
		}
	}
}

func TestCheckOfHowManyInstructions(t *testing.T) {
	for _, x := range []inst{match(), fail(), bytes(0, 255, 3999), split(3999, 0), slot(63, 0), assert(6, 1)} {
		for _, n := range []int{1, 2, 3, 10, 255, 256, 257, 1000, 3998, 3999, 4000} {
			p := of(0, 2, many(x, n)...)
			shows(t, p, modelText(p), true)
		}
		for _, n := range []int{0, 4001, 4002, 4096, 8000, 65536, 65537} {
			shows(t, of(0, 2, many(x, n)...), "", false)
		}
	}
	shows(t, code{}, "", false)
	shows(t, of(5, 64), "", false)
	shows(t, code{Insts: []inst{}, Slots: 2}, "", false)
	if api.MaxProg != maxProg || api.MaxSlots != maxSlots {
		t.Error("other limits")
	}
}

// Start and Slots are not held against the number of instructions, nor against the slots that these name.
func TestCheckOfStartAndSlots(t *testing.T) {
	l := edges()
	for n := -70; n < 140; n++ {
		l = append(l, n)
	}
	for _, start := range l {
		for _, slots := range l {
			for _, x := range []inst{match(), slot(63, 3999), {}} {
				p := of(start, slots, x)
				shows(t, p, modelText(p), 0 <= start && start <= 3999 && 0 <= slots && slots <= 64 && x.Op != 0)
			}
			shows(t, of(start, slots), "", false)
		}
	}
	for start := -100; start < 4200; start++ {
		if want := modelOk(of(start, 2, fail())); want != (prog.Check(of(start, 2, fail())) == api.OK) {
			t.Errorf("a Start of %d: %t", start, !want)
		}
	}
}

func TestCheckIsTheDefinition(t *testing.T) {
	r := random(1)
	for range 20000 {
		p := anyProg(r)
		shows(t, p, modelText(p), true)
		for range 1 + r.IntN(2) {
			spoil(&p, r.IntN(7), edges()[r.IntN(len(edges()))], r.IntN(len(p.Insts)))
		}
		shows(t, p, modelText(p), modelOk(p))
	}
}

// spoil sets a field of p to n: Start, Slots, or a field of instruction i.
func spoil(p *code, field, n, i int) {
	*[]*int{&p.Start, &p.Slots, &p.Insts[i].Op, &p.Insts[i].Lo, &p.Insts[i].Hi, &p.Insts[i].X, &p.Insts[i].Y}[field] = n
}

// same demands what Same returns for a and b, in both orders.
func same(t *testing.T, a, b code, want bool) {
	t.Helper()
	if got, turned := prog.Same(a, b), prog.Same(b, a); got != want || turned != want {
		t.Errorf("Same(%s, %s) = %t, and the other way round %t", brief(a), brief(b), got, turned)
	}
}

func TestSame(t *testing.T) {
	a := of(1, 2, bytes(97, 99, 1), match(), split(0, 1))
	same(t, a, a, true)
	same(t, a, of(1, 2, inst{Op: 1, Lo: 97, Hi: 99, X: 1}, inst{Op: 5}, inst{Op: 2, Y: 1}), true)
	same(t, of(1, 2), of(1, 2), true)
	same(t, code{}, code{}, true)
	for _, b := range []code{
		of(0, 2, a.Insts...), of(1, 0, a.Insts...), of(2, 1, a.Insts...), of(1, 2), {}, of(-1, 2, a.Insts...), of(1, -2, a.Insts...), of(1+1<<32, 2, a.Insts...), of(1, 2+1<<32, a.Insts...),
		of(1, 2, a.Insts[:1]...), of(1, 2, a.Insts[:2]...), of(1, 2, a.Insts[1:]...), of(1, 2, append(slices.Clone(a.Insts), fail())...), of(1, 2, append(slices.Clone(a.Insts), inst{})...), of(1, 2, append([]inst{{}}, a.Insts...)...), of(1, 2, append(slices.Clone(a.Insts), a.Insts...)...),
		of(1, 2, match(), bytes(97, 99, 1), split(0, 1)), of(1, 2, bytes(97, 99, 1), split(0, 1), match()), of(1, 2, split(0, 1), match(), bytes(97, 99, 1)), of(1, 2, bytes(97, 99, 1), match(), split(1, 0)), of(1, 2, bytes(99, 97, 1), match(), split(0, 1)), of(1, 2, bytes(97, 99, 1), fail(), split(0, 1)),
	} {
		same(t, a, b, false)
	}
	same(t, of(1, 2), of(1, 2, inst{}), false)
	same(t, code{}, of(0, 0, inst{}), false)
	same(t, code{}, of(1, 0), false)
	same(t, code{}, of(0, 1), false)
	same(t, of(0, 1), of(1, 0), false)
}

// Nil and empty are equivalent, and spare capacity is no part of a program.
func TestSameOfNilAndEmpty(t *testing.T) {
	room := append(make([]inst, 0, 9), match(), fail(), split(1, 2))
	same(t, code{}, code{Insts: []inst{}}, true)
	same(t, code{Slots: 2}, code{Insts: []inst{}, Slots: 2}, true)
	same(t, code{}, code{Insts: room[:0]}, true)
	same(t, of(0, 2, match()), code{Insts: room[:1], Slots: 2}, true)
	same(t, of(0, 2, match(), fail()), code{Insts: room[:1], Slots: 2}, false)
	same(t, of(0, 2, room[1]), code{Insts: room[1:2], Slots: 2}, true)
}

// Programs need not be well formed to be compared, and those that differ in one field alone differ.
func TestSameOfOneField(t *testing.T) {
	r := random(2)
	l := append(edges(), ops()...)
	for range 1000 {
		a := anyProg(r)
		if r.IntN(3) == 0 {
			a.Insts = append(a.Insts, faults...)
		}
		b := of(a.Start, a.Slots, slices.Clone(a.Insts)...)
		same(t, a, b, true)
		for i := range b.Insts {
			for field := range 7 {
				spoil(&b, field, l[r.IntN(len(l))], i)
				same(t, a, b, equal(a, b))
				spoil(&a, field, math.MaxInt-7, i)
				spoil(&b, field, math.MaxInt-7, i)
				same(t, a, b, true)
				spoil(&a, field, 7-math.MaxInt, i)
				same(t, a, b, false)
				spoil(&b, field, 7-math.MaxInt, i)
			}
		}
	}
}

// Programs as long as may be, and longer ones, that differ at one place.
func TestSameOfLongPrograms(t *testing.T) {
	for _, n := range []int{4000, 4001, 100000} {
		a, b := of(0, 2, many(split(1, 2), n)...), of(0, 2, many(split(1, 2), n)...)
		same(t, a, b, true)
		same(t, a, of(0, 2, b.Insts[1:]...), false)
		for _, i := range []int{0, 1, n / 2, n - 2, n - 1} {
			b.Insts[i].Y++
			same(t, a, b, false)
			b.Insts[i].Y--
			b.Insts[i].Lo--
			same(t, a, b, false)
			b.Insts[i].Lo++
		}
		same(t, a, b, true)
	}
}
