package prog_test

import (
	"fmt"
	"math"
	"math/rand/v2"
	"reflect"
	"regexp"
	"slices"
	"strconv"
	"strings"
	"testing"

	"burin/api"
	"burin/prog"
)

type (
	inst = api.Inst
	code = api.Prog
)

// The numbers of the document: those of Op, and the limits.
const (
	opByte   = 1
	opSplit  = 2
	opCap    = 3
	opAssert = 4
	opMatch  = 5
	opFail   = 6

	maxProg  = 4000
	maxSlots = 64
)

func bytes(low, high, x int) inst { return inst{Op: opByte, Lo: low, Hi: high, X: x} }
func split(x, y int) inst         { return inst{Op: opSplit, X: x, Y: y} }
func slot(at, x int) inst         { return inst{Op: opCap, Lo: at, X: x} }
func assert(kind, x int) inst     { return inst{Op: opAssert, Lo: kind, X: x} }
func match() inst                 { return inst{Op: opMatch} }
func fail() inst                  { return inst{Op: opFail} }

// of returns the program of these instructions.
func of(start, slots int, l ...inst) code { return code{Insts: l, Start: start, Slots: slots} }

// many returns that many times x.
func many(x inst, times int) []inst { return slices.Repeat([]inst{x}, times) }

func within(n, least, greatest int) bool { return least <= n && n <= greatest }

// modelFits is the definition of the fields of an instruction, word by word.
func modelFits(x inst) bool {
	target := within(x.X, 0, maxProg-1)
	switch x.Op {
	case opByte:
		return within(x.Lo, 0, 255) && within(x.Hi, 0, 255) && x.Lo <= x.Hi && target && x.Y == 0
	case opSplit:
		return x.Lo == 0 && x.Hi == 0 && target && within(x.Y, 0, maxProg-1)
	case opCap:
		return within(x.Lo, 0, maxSlots-1) && x.Hi == 0 && target && x.Y == 0
	case opAssert:
		return within(x.Lo, 1, 6) && x.Hi == 0 && target && x.Y == 0
	case opMatch, opFail:
		return x == inst{Op: x.Op}
	}
	return false
}

// modelOk is the definition of programs that are well formed.
func modelOk(p code) bool {
	return within(len(p.Insts), 1, maxProg) && !slices.ContainsFunc(p.Insts, func(x inst) bool { return !modelFits(x) }) && within(p.Start, 0, maxProg-1) && within(p.Slots, 0, maxSlots)
}

// modelText is the text of a program that is well formed.
func modelText(p code) string {
	var b strings.Builder
	fmt.Fprintf(&b, "program %d %d\n", p.Start, p.Slots)
	for _, x := range p.Insts {
		switch x.Op {
		case opByte:
			fmt.Fprintf(&b, "byte %d %d %d\n", x.Lo, x.Hi, x.X)
		case opSplit:
			fmt.Fprintf(&b, "split %d %d\n", x.X, x.Y)
		case opCap:
			fmt.Fprintf(&b, "cap %d %d\n", x.Lo, x.X)
		case opAssert:
			fmt.Fprintf(&b, "assert %d %d\n", x.Lo, x.X)
		case opMatch:
			fmt.Fprint(&b, "match\n")
		case opFail:
			fmt.Fprint(&b, "fail\n")
		}
	}
	return b.String()
}

// decimals are the numbers of the text format. One with more than four digits is none of a well-formed program.
const decimals = "(0|[1-9][0-9]{0,3})"

// The lines of the text format.
var (
	headLine = regexp.MustCompile(`\A` + items("program", 2) + `\z`)
	instLine = regexp.MustCompile(`\A(?:` + items("(byte)", 3) + "|" + items("(split)", 2) + "|" + items("(cap)", 2) + "|" + items("(assert)", 2) + `|(match)|(fail))\z`)
)

// items returns a word and that many numbers.
func items(word string, numbers int) string { return word + strings.Repeat(" "+decimals, numbers) }

// modelRead returns the program whose text is s: otherwise false.
func modelRead(s string) (code, bool) {
	if !strings.HasSuffix(s, "\n") {
		return code{}, false
	}
	lines := strings.Split(s[:len(s)-1], "\n")
	head := headLine.FindStringSubmatch(lines[0])
	if head == nil || len(lines) > maxProg+1 {
		return code{}, false
	}
	p := of(decimal(head[1]), decimal(head[2]))
	for _, line := range lines[1:] {
		found := instLine.FindStringSubmatch(line)
		if found == nil {
			return code{}, false
		}
		p.Insts = append(p.Insts, modelInst(slices.DeleteFunc(found[1:], func(s string) bool { return s == "" })))
	}
	return p, modelOk(p)
}

func decimal(s string) int {
	n, _ := strconv.Atoi(s)
	return n
}

// modelInst returns the instruction of the items of a line.
func modelInst(items []string) inst {
	var l []int
	for _, item := range items[1:] {
		l = append(l, decimal(item))
	}
	switch items[0] {
	case "byte":
		return bytes(l[0], l[1], l[2])
	case "split":
		return split(l[0], l[1])
	case "cap":
		return slot(l[0], l[1])
	case "assert":
		return assert(l[0], l[1])
	case "match":
		return match()
	}
	return fail()
}

// equal reports whether two programs are equal in every field, as the library finds it.
func equal(a, b code) bool {
	return a.Start == b.Start && a.Slots == b.Slots && len(a.Insts) == len(b.Insts) && (len(a.Insts) == 0 || reflect.DeepEqual(a.Insts, b.Insts))
}

// cut returns s, or the ends of it if it is long.
func cut(s string) string {
	if len(s) <= 200 {
		return s
	}
	return fmt.Sprintf("%s ..(%d bytes).. %s", s[:100], len(s)-200, s[len(s)-100:])
}

// brief describes p.
func brief(p code) string { return cut(fmt.Sprintf("%+v", p)) }

// reads demands what Read returns for s: p, or ErrProg if ok is not set.
func reads(t *testing.T, s string, p code, ok bool) {
	t.Helper()
	got, e := prog.Read(s)
	if !ok {
		p = code{}
	}
	if ok != (e == api.OK) || e != api.OK && e != api.ErrProg || !equal(got, p) {
		t.Errorf("Read(%q) = %s, %d, want %s, %t", cut(s), brief(got), int(e), brief(p), ok)
	}
}

// refused demands that s is the text of no program.
func refused(t *testing.T, s string) {
	t.Helper()
	reads(t, s, code{}, false)
}

// likeTheModel demands that Read returns for s what the model returns.
func likeTheModel(t *testing.T, s string) {
	t.Helper()
	p, ok := modelRead(s)
	reads(t, s, p, ok)
}

// shows demands what Check and Show return for p: OK and the text s, or ErrProg if ok is not set.
func shows(t *testing.T, p code, s string, ok bool) {
	t.Helper()
	want := api.ErrProg
	if ok {
		want = api.OK
	} else {
		s = ""
	}
	if got, e := prog.Show(p); got != s || e != want {
		t.Errorf("Show(%s) = %q, %d, want %q, %d", brief(p), cut(got), int(e), cut(s), int(want))
	}
	if e := prog.Check(p); e != want {
		t.Errorf("Check(%s) = %d, want %d", brief(p), int(e), int(want))
	}
}

// edges are numbers at and next to the ends of fields, those that would be valid if some of their bits were lost, and the
// least and greatest integers.
func edges() []int {
	out := []int{math.MinInt, math.MinInt + 1, -1 << 32, -1<<32 + 1, -4000, -3999, -256, -255, -64, -2, -1, 0, 1, 2, 3, 5, 6, 7, 62, 63, 64, 65, 254, 255, 256, 257, 3998, 3999, 4000, 4001, 4096, 65535, 65536, 65537, 1<<31 - 1, 1 << 31, 1 << 32, 1<<32 + 1, 1 << 62, math.MaxInt - 1, math.MaxInt}
	return out
}

// ops are numbers of Op, valid or not.
func ops() []int {
	return []int{-1 << 32, -256 + 5, -6, -5, -1, 0, 1, 2, 3, 4, 5, 6, 7, 8, 9, 256 + 1, 256 + 5, 1<<16 + 6, 1<<32 + 1, 1<<32 + 5, math.MinInt, math.MinInt + 5, math.MaxInt}
}

// random returns numbers that are always the same.
func random(seed uint64) *rand.Rand { return rand.New(rand.NewPCG(seed, 14)) }

// anyInst returns an instruction with valid fields.
func anyInst(r *rand.Rand) inst {
	x, y := r.IntN(maxProg), r.IntN(maxProg)
	if r.IntN(2) == 0 {
		x, y = r.IntN(12), r.IntN(12)
	}
	switch r.IntN(6) {
	case 0:
		low := r.IntN(256)
		return bytes(low, low+r.IntN(256-low), x)
	case 1:
		return split(x, y)
	case 2:
		return slot(r.IntN(maxSlots), x)
	case 3:
		return assert(1+r.IntN(6), x)
	case 4:
		return match()
	}
	return fail()
}

// anyProg returns a program that is well formed.
func anyProg(r *rand.Rand) code {
	p := of(r.IntN(maxProg), r.IntN(maxSlots+1))
	for range 1 + r.IntN(12) {
		p.Insts = append(p.Insts, anyInst(r))
	}
	return p
}
