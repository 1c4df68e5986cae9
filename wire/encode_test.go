package wire_test

import (
	"math"
	"slices"
	"testing"

	"burin/api"
	"burin/prog"
)

// written are programs and their encodings.
var written = []struct {
	p code
	s string
}{
	{of(0, 0, match()), "42 52 31 00 00 01 05 25"},
	{of(0, 2, fail()), "42 52 31 00 02 01 06 24"},
	{of(3999, 64, match()), "42 52 31 9F 1F 40 01 05 E5"},
	{of(1, 3, match(), fail()), "42 52 31 01 03 02 05 06 22"},
	{of(127, 2, fail()), "42 52 31 7F 02 01 06 5B"},
	{of(128, 2, fail()), "42 52 31 80 01 02 01 06 A5"},
	{of(300, 2, match()), "42 52 31 AC 02 02 01 05 89"},

	// the examples: a byte from a to c, then instruction 1; the core a* (chapter 17); an empty loop (chapter 16)
	{of(0, 2, bytes('a', 'c', 1), match()), "42 52 31 00 02 02 01 61 63 01 05 26"},
	{of(2, 2, match(), fail(), split(3, 0), bytes('a', 'a', 2)), "42 52 31 02 02 04 05 06 02 03 00 01 61 61 02 24"},
	{of(0, 2, split(0, 1), match()), "42 52 31 00 02 02 02 00 01 05 27"},

	// each operation, with its fields in their order, at their least and greatest numbers and in varints of one and two bytes
	{of(0, 2, bytes(1, 2, 3)), "42 52 31 00 02 01 01 01 02 03 23"},
	{of(0, 2, bytes(0, 0, 0)), "42 52 31 00 02 01 01 00 00 00 23"},
	{of(0, 2, bytes(0, 127, 128)), "42 52 31 00 02 01 01 00 7F 80 01 DD"},
	{of(0, 2, bytes(128, 255, 3999)), "42 52 31 00 02 01 01 80 01 FF 01 9F 1F DC"},
	{of(0, 2, split(1, 2)), "42 52 31 00 02 01 02 01 02 23"},
	{of(0, 2, split(2, 1)), "42 52 31 00 02 01 02 02 01 23"},
	{of(0, 2, split(0, 0)), "42 52 31 00 02 01 02 00 00 20"},
	{of(0, 2, split(300, 5)), "42 52 31 00 02 01 02 AC 02 05 8B"},
	{of(0, 2, split(127, 128)), "42 52 31 00 02 01 02 7F 80 01 DE"},
	{of(0, 2, split(129, 255)), "42 52 31 00 02 01 02 81 01 FF 01 5E"},
	{of(0, 2, split(256, 3999)), "42 52 31 00 02 01 02 80 02 9F 1F 22"},
	{of(0, 2, slot(1, 2)), "42 52 31 00 02 01 03 01 02 22"},
	{of(0, 2, slot(0, 0)), "42 52 31 00 02 01 03 00 00 21"},
	{of(0, 2, slot(63, 3999)), "42 52 31 00 02 01 03 3F 9F 1F 9E"},
	{of(0, 2, assert(1, 0)), "42 52 31 00 02 01 04 01 00 27"},
	{of(0, 2, assert(6, 3999)), "42 52 31 00 02 01 04 06 9F 1F A0"},
	{of(0, 2, assert(3, 4)), "42 52 31 00 02 01 04 03 04 21"},
	{of(7, 9, bytes(48, 57, 6), split(0, 2), slot(3, 4), assert(5, 6), match(), fail()), "42 52 31 07 09 06 01 30 39 06 02 00 02 03 03 04 04 05 06 05 06 27"},
}

// wellFormed are programs, among them each operation at the ends of its fields, and as many instructions as may be.
func wellFormed() []code {
	var out []code
	for _, x := range written {
		out = append(out, x.p)
	}
	return append(out, of(0, 2, many(match(), 127)...), of(0, 2, many(fail(), 128)...), of(3999, 64, many(split(3999, 3999), maxProg)...))
}

// faults are instructions without valid fields.
var faults = []inst{
	{}, {Op: -1}, {Op: 7}, {Op: 256 + 5}, {Op: 1<<32 + 5}, {Op: math.MaxInt}, {Op: math.MinInt + 5}, {Lo: 1, X: 1},
	{Op: opByte, Lo: -1}, {Op: opByte, Lo: -1, Hi: -1}, {Op: opByte, Lo: 256, Hi: 256}, {Op: opByte, Hi: 256}, {Op: opByte, Hi: -1}, {Op: opByte, Lo: 1}, {Op: opByte, Lo: 99, Hi: 97, X: 1}, {Op: opByte, Hi: math.MaxInt}, {Op: opByte, X: -1}, {Op: opByte, X: 4000}, {Op: opByte, Y: 1}, {Op: opByte, Y: -1},
	{Op: opSplit, X: -1}, {Op: opSplit, X: 4000}, {Op: opSplit, Y: -1}, {Op: opSplit, Y: 4000}, {Op: opSplit, Lo: 1}, {Op: opSplit, Hi: 1}, {Op: opSplit, Y: math.MinInt}, {Op: opSplit, X: 1 << 32},
	{Op: opCap, Lo: -1}, {Op: opCap, Lo: 64}, {Op: opCap, X: -1}, {Op: opCap, X: 4000}, {Op: opCap, Hi: 1}, {Op: opCap, Y: 1},
	{Op: opAssert}, {Op: opAssert, Lo: -1}, {Op: opAssert, Lo: 7}, {Op: opAssert, Lo: 1, X: -1}, {Op: opAssert, Lo: 1, X: 4000}, {Op: opAssert, Lo: 1, Hi: 1}, {Op: opAssert, Lo: 1, Y: 1},
	{Op: opMatch, Lo: 1}, {Op: opMatch, Hi: 1}, {Op: opMatch, X: 1}, {Op: opMatch, Y: 1}, {Op: opMatch, X: -1},
	{Op: opFail, Lo: 1}, {Op: opFail, Hi: 1}, {Op: opFail, X: 1}, {Op: opFail, Y: 1}, {Op: opFail, Y: math.MinInt},
}

func TestEncodings(t *testing.T) {
	for _, x := range written {
		encodes(t, x.p, raw(x.s), true)
		decodes(t, raw(x.s), x.p, true)
		if modelBytes(x.p) != raw(x.s) {
			t.Errorf("the model encodes %s as %s", brief(x.p), cut(modelBytes(x.p)))
		}
	}
}

// The varint of 300 is AC 02, wherever the number stands.
func TestTheExample(t *testing.T) {
	if s := varints(300); s != "\xAC\x02" {
		t.Errorf("300 is % X", s)
	}
	for _, x := range []struct {
		p    code
		rest string
	}{
		{of(300, 2, match()), "AC 02 02 01 05"}, {of(0, 2, bytes(0, 0, 300)), "00 02 01 01 00 00 AC 02"}, {of(0, 2, split(300, 0)), "00 02 01 02 AC 02 00"}, {of(0, 2, split(0, 300)), "00 02 01 02 00 AC 02"}, {of(0, 2, slot(0, 300)), "00 02 01 03 00 AC 02"}, {of(0, 2, assert(1, 300)), "00 02 01 04 01 AC 02"},
	} {
		encodes(t, x.p, seal(raw(x.rest)), true)
		decodes(t, seal(raw(x.rest)), x.p, true)
	}
}

// Every number of every field, and those behind the greatest, which are neither encoded nor decoded.
func TestEachNumber(t *testing.T) {
	for n := range 4200 {
		for _, p := range []code{of(n, 2, match()), of(2, n, match()), of(0, 2, bytes(n, n, 7)), of(0, 2, bytes(n, 255, 7)), of(0, 2, bytes(0, n, 7)), of(0, 2, bytes(100, n, 7)), of(0, 2, bytes(n, 100, 7)), of(0, 2, bytes(7, 8, n)), of(0, 2, split(n, 7)), of(0, 2, split(7, n)), of(0, 2, slot(n, 7)), of(0, 2, slot(7, n)), of(0, 2, assert(n, 7)), of(0, 2, assert(2, n)), of(0, 2, inst{Op: n})} {
			s := modelBytes(p)
			if n > 255 && p.Insts[0].Op == n {
				s = seal("\x00\x02\x01" + varints(n))
			}
			encodes(t, p, s, modelOk(p))
			decodes(t, s, p, modelOk(p))
		}
	}
}

// As many instructions as may be, and more.
func TestHowManyInstructions(t *testing.T) {
	for _, x := range []inst{match(), fail(), bytes(0, 0, 0), bytes(255, 255, 3999), split(3999, 3999), slot(63, 0), assert(6, 1)} {
		for _, n := range []int{0, 1, 2, 3, 63, 64, 126, 127, 128, 129, 255, 256, 257, 1000, 3998, 3999, 4000, 4001, 4002, 4096, 8000, 16383, 16384, 65536, 65537} {
			p := of(3999, 64, many(x, n)...)
			encodes(t, p, modelBytes(p), within(n, 1, 4000))
			decodes(t, modelBytes(p), p, within(n, 1, 4000))
		}
	}
	encodes(t, code{}, "", false)
	encodes(t, code{Insts: []inst{}, Slots: 2}, "", false)
	if api.MaxProg != maxProg || api.MaxSlots != maxSlots {
		t.Error("other limits")
	}
}

// A program is as valid as its instructions, wherever in it they are.
func TestEncodeOfFaults(t *testing.T) {
	good := many(split(1, 2), maxProg-1)
	for _, x := range faults {
		for _, l := range [][]inst{{x}, {x, x}, {x, match()}, {match(), x}, {fail(), x, match()}, append(slices.Clone(good), x), append([]inst{x}, good...)} {
			encodes(t, of(0, 2, l...), "", false)
		}
	}
}

// Start and Slots are not held against the number of instructions, nor against the slots that these name.
func TestStartAndSlots(t *testing.T) {
	l := edges()
	for n := -70; n < 140; n++ {
		l = append(l, n)
	}
	for _, start := range l {
		for _, slots := range l {
			for _, x := range []inst{match(), slot(63, 3999), {}} {
				p := of(start, slots, x)
				encodes(t, p, modelBytes(p), modelOk(p))
				decodes(t, modelBytes(p), p, modelOk(p))
			}
		}
	}
}

// spoil sets a field of p to n: Start, Slots, or a field of instruction i.
func spoil(p *code, field, n, i int) {
	*[]*int{&p.Start, &p.Slots, &p.Insts[i].Op, &p.Insts[i].Lo, &p.Insts[i].Hi, &p.Insts[i].X, &p.Insts[i].Y}[field] = n
}

func TestEncodeIsTheDefinition(t *testing.T) {
	r := random(1)
	l := edges()
	for range 50000 {
		p := anyProg(r)
		inverted(t, p)
		for range 1 + r.IntN(2) {
			spoil(&p, r.IntN(7), l[r.IntN(len(l))], r.IntN(len(p.Insts)))
		}
		encodes(t, p, modelBytes(p), modelOk(p))
		if e := prog.Check(p); (e == api.OK) != modelOk(p) {
			t.Errorf("Check(%s) = %d", brief(p), int(e))
		}
	}
}

// Small programs all of them: no two have the same encoding.
func TestDecodeInvertsEncode(t *testing.T) {
	small := []inst{bytes(0, 0, 0), bytes(0, 1, 0), bytes(1, 1, 0), bytes(0, 0, 1), bytes(1, 128, 5), split(0, 0), split(0, 1), split(1, 0), split(5, 6), split(128, 1), slot(0, 0), slot(0, 1), slot(1, 0), assert(1, 0), assert(2, 0), assert(1, 1), match(), fail()}
	seen := map[string]bool{}
	for _, a := range small {
		for _, b := range small {
			for _, c := range small {
				for start := range 2 {
					for slots := range 2 {
						p := of(start, slots, a, b, c)
						inverted(t, p)
						seen[modelBytes(p)] = true
					}
				}
			}
		}
	}
	if want := 4 * len(small) * len(small) * len(small); len(seen) != want {
		t.Errorf("%d programs have %d encodings", want, len(seen))
	}
}

func TestDecodeInvertsEncodeForLongPrograms(t *testing.T) {
	r := random(2)
	for _, n := range []int{100, 127, 128, 129, 1000, 2048, 3999, 4000} {
		for range 20 {
			inverted(t, longProg(r, n))
		}
	}
}

// Only the instructions up to the length are those of the program.
func TestSpareCapacityIsNotEncoded(t *testing.T) {
	all := []inst{match(), fail(), {Op: 99}, split(1, 2)}
	encodes(t, of(0, 2, all[:2]...), modelBytes(of(0, 2, match(), fail())), true)
	encodes(t, of(0, 2, all[3:]...), modelBytes(of(0, 2, split(1, 2))), true)
	encodes(t, of(0, 2, all[:3]...), "", false)
	encodes(t, of(0, 2, all[:0]...), "", false)
}
