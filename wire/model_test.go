package wire_test

import (
	"encoding/binary"
	"encoding/hex"
	"fmt"
	"math"
	"math/big"
	"math/rand/v2"
	"reflect"
	"slices"
	"strings"
	"testing"

	"burin/api"
	"burin/wire"
)

type (
	inst = api.Inst
	code = api.Prog
)

// The numbers of the document: those of Op, and the limits.
const (
	opByte   = 1
	opSplit  = 2
	opCap    = 3
	opAssert = 4
	opMatch  = 5
	opFail   = 6

	maxProg  = 4000
	maxSlots = 64
)

func bytes(low, high, x int) inst { return inst{Op: opByte, Lo: low, Hi: high, X: x} }
func split(x, y int) inst         { return inst{Op: opSplit, X: x, Y: y} }
func slot(at, x int) inst         { return inst{Op: opCap, Lo: at, X: x} }
func assert(kind, x int) inst     { return inst{Op: opAssert, Lo: kind, X: x} }
func match() inst                 { return inst{Op: opMatch} }
func fail() inst                  { return inst{Op: opFail} }

// of returns the program of these instructions.
func of(start, slots int, l ...inst) code { return code{Insts: l, Start: start, Slots: slots} }

// many returns that many times x.
func many(x inst, times int) []inst { return slices.Repeat([]inst{x}, times) }

func within(n, least, greatest int) bool { return least <= n && n <= greatest }

// modelFits is the definition of the fields of an instruction, word by word.
func modelFits(x inst) bool {
	target := within(x.X, 0, maxProg-1)
	switch x.Op {
	case opByte:
		return within(x.Lo, 0, 255) && within(x.Hi, 0, 255) && x.Lo <= x.Hi && target && x.Y == 0
	case opSplit:
		return x.Lo == 0 && x.Hi == 0 && target && within(x.Y, 0, maxProg-1)
	case opCap:
		return within(x.Lo, 0, maxSlots-1) && x.Hi == 0 && target && x.Y == 0
	case opAssert:
		return within(x.Lo, 1, 6) && x.Hi == 0 && target && x.Y == 0
	case opMatch, opFail:
		return x == inst{Op: x.Op}
	}
	return false
}

// modelOk is the definition of programs that are well formed.
func modelOk(p code) bool {
	return within(len(p.Insts), 1, maxProg) && !slices.ContainsFunc(p.Insts, func(x inst) bool { return !modelFits(x) }) && within(p.Start, 0, maxProg-1) && within(p.Slots, 0, maxSlots)
}

// modelBytes is the encoding of p. Programs that are not well formed have one too, as far as their numbers are the fields of
// their instructions.
func modelBytes(p code) string {
	b := []byte("BR1")
	for _, n := range []int{p.Start, p.Slots, len(p.Insts)} {
		b = binary.AppendUvarint(b, uint64(n))
	}
	for _, x := range p.Insts {
		b = append(b, byte(x.Op))
		for _, n := range modelFields(x) {
			b = binary.AppendUvarint(b, uint64(n))
		}
	}
	return check(string(b))
}

func modelFields(x inst) []int {
	switch x.Op {
	case opByte:
		return []int{x.Lo, x.Hi, x.X}
	case opSplit:
		return []int{x.X, x.Y}
	case opCap, opAssert:
		return []int{x.Lo, x.X}
	}
	return nil
}

// check puts the byte behind s that makes its last one right.
func check(s string) string {
	var c byte
	for i := range len(s) {
		c ^= s[i]
	}
	return s + string([]byte{c})
}

// seal puts the letters ahead of s and the right last byte behind it.
func seal(s string) string { return check("BR1" + s) }

// modelDecode returns the program whose encoding is s: otherwise false. What it reads may be wrong, since it is encoded again.
func modelDecode(s string) (code, bool) {
	if len(s) < 4 {
		return code{}, false
	}
	rest := []byte(s[3 : len(s)-1])
	number := func() int {
		n, size := binary.Uvarint(rest)
		rest = rest[max(size, 0):]
		return int(n)
	}
	p := code{Start: number(), Slots: number()}
	number()
	for len(rest) > 0 && len(p.Insts) <= maxProg {
		op := int(rest[0])
		rest = rest[1:]
		switch op {
		case opByte:
			p.Insts = append(p.Insts, bytes(number(), number(), number()))
		case opSplit:
			p.Insts = append(p.Insts, split(number(), number()))
		case opCap, opAssert:
			p.Insts = append(p.Insts, inst{Op: op, Lo: number(), X: number()})
		default:
			p.Insts = append(p.Insts, inst{Op: op})
		}
	}
	return p, modelOk(p) && modelBytes(p) == s
}

// varints are the varints of numbers.
func varints(l ...int) string {
	s := ""
	for _, n := range l {
		s += varint(big.NewInt(int64(n)))
	}
	return s
}

// varint is the varint of a number that may be too great for an int.
func varint(n *big.Int) string {
	q, r := new(big.Int).DivMod(n, big.NewInt(128), new(big.Int))
	if q.Sign() == 0 {
		return string([]byte{byte(r.Int64())})
	}
	return string([]byte{byte(r.Int64()) | 0x80}) + varint(q)
}

// plus is n + 2^bits.
func plus(n, bits int) *big.Int {
	p := new(big.Int).Lsh(big.NewInt(1), uint(bits))
	return p.Add(p, big.NewInt(int64(n)))
}

// longer is a varint with that many groups more than necessary.
func longer(s string, groups int) string {
	last := len(s) - 1
	return s[:last] + string([]byte{s[last] | 0x80}) + strings.Repeat("\x80", groups-1) + "\x00"
}

// raw returns the bytes of hexadecimal numbers.
func raw(s string) string {
	b, e := hex.DecodeString(strings.ReplaceAll(s, " ", ""))
	if e != nil {
		panic(s)
	}
	return string(b)
}

// equal reports whether two programs are equal in every field, as the library finds it.
func equal(a, b code) bool {
	return a.Start == b.Start && a.Slots == b.Slots && len(a.Insts) == len(b.Insts) && (len(a.Insts) == 0 || reflect.DeepEqual(a.Insts, b.Insts))
}

// cut returns s in hexadecimal numbers, or the ends of it if it is long.
func cut(s string) string {
	if len(s) <= 100 {
		return fmt.Sprintf("% X", s)
	}
	return fmt.Sprintf("% X ..(%d bytes).. % X", s[:50], len(s)-100, s[len(s)-50:])
}

// brief describes p.
func brief(p code) string {
	if len(p.Insts) > 8 {
		return fmt.Sprintf("{%+v ..(%d).. Start:%d Slots:%d}", p.Insts[:8], len(p.Insts), p.Start, p.Slots)
	}
	return fmt.Sprintf("%+v", p)
}

// encodes demands what Encode returns for p: s and OK, or ErrProg if ok is not set.
func encodes(t *testing.T, p code, s string, ok bool) {
	t.Helper()
	want := api.OK
	if !ok {
		s, want = "", api.ErrProg
	}
	if got, e := wire.Encode(p); got != s || e != want {
		t.Errorf("Encode(%s) = %s, %d, want %s, %d", brief(p), cut(got), int(e), cut(s), int(want))
	}
}

// decodes demands what Decode returns for s: p and OK, or ErrWire if ok is not set.
func decodes(t *testing.T, s string, p code, ok bool) {
	t.Helper()
	want := api.OK
	if !ok {
		p, want = code{}, api.ErrWire
	}
	if got, e := wire.Decode(s); !equal(got, p) || e != want {
		t.Errorf("Decode(%s) = %s, %d, want %s, %d", cut(s), brief(got), int(e), brief(p), int(want))
	}
}

// refused demands that s is the encoding of no program.
func refused(t *testing.T, s string) {
	t.Helper()
	decodes(t, s, code{}, false)
}

// likeTheModel demands that Decode returns for s what the model returns.
func likeTheModel(t *testing.T, s string) {
	t.Helper()
	p, ok := modelDecode(s)
	decodes(t, s, p, ok)
}

// inverted demands that Decode inverts Encode for p, which is well formed, and that its encoding is that of the model.
func inverted(t *testing.T, p code) {
	t.Helper()
	s := modelBytes(p)
	encodes(t, p, s, true)
	decodes(t, s, p, true)
}

// edges are numbers at and next to the ends of fields and of varints, those that would be valid if some of their bits were
// lost, and the least and greatest integers.
func edges() []int {
	return []int{math.MinInt, math.MinInt + 1, -1 << 32, -1<<32 + 1, -4000, -256, -255, -128, -64, -2, -1, 0, 1, 2, 3, 5, 6, 7, 62, 63, 64, 65, 126, 127, 128, 129, 254, 255, 256, 257, 3998, 3999, 4000, 4001, 4096, 16383, 16384, 16385, 65536, 65537, 1<<31 - 1, 1 << 31, 1 << 32, 1<<32 + 1, 1 << 62, math.MaxInt - 1, math.MaxInt}
}

// random returns numbers that are always the same.
func random(seed uint64) *rand.Rand { return rand.New(rand.NewPCG(seed, 15)) }

// anyInst returns an instruction with valid fields.
func anyInst(r *rand.Rand) inst {
	x, y := r.IntN(maxProg), r.IntN(maxProg)
	if r.IntN(2) == 0 {
		x, y = r.IntN(12), r.IntN(200)
	}
	switch r.IntN(6) {
	case 0:
		low := r.IntN(256)
		return bytes(low, low+r.IntN(256-low), x)
	case 1:
		return split(x, y)
	case 2:
		return slot(r.IntN(maxSlots), x)
	case 3:
		return assert(1+r.IntN(6), x)
	case 4:
		return match()
	}
	return fail()
}

// anyProg returns a program that is well formed.
func anyProg(r *rand.Rand) code {
	p := of(r.IntN(maxProg), r.IntN(maxSlots+1))
	for range 1 + r.IntN(12) {
		p.Insts = append(p.Insts, anyInst(r))
	}
	return p
}

// longProg returns a program of that many instructions.
func longProg(r *rand.Rand, n int) code {
	p := of(r.IntN(maxProg), r.IntN(maxSlots+1))
	for range n {
		p.Insts = append(p.Insts, anyInst(r))
	}
	return p
}

// every calls f with all strings of that many pieces.
func every(pieces []string, many int, s string, f func(string)) {
	if many == 0 {
		f(s)
		return
	}
	for _, piece := range pieces {
		every(pieces, many-1, s+piece, f)
	}
}
