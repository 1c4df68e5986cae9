package verify_test

import (
	"fmt"
	"math/rand/v2"
	"slices"
	"strings"
	"testing"

	"burin/api"
	"burin/verify"
)

type (
	inst = api.Inst
	code = api.Prog
)

// The numbers of the document: those of Op, the limits, and the errors.
const (
	opByte   = 1
	opSplit  = 2
	opCap    = 3
	opAssert = 4
	opMatch  = 5
	opFail   = 6

	maxProg  = 4000
	maxSlots = 64

	fine      = api.Code(0)
	errProg   = api.Code(130)
	errTarget = api.Code(150)
	errLoop   = api.Code(151)
	errSlot   = api.Code(152)
)

func bytes(low, high, x int) inst { return inst{Op: opByte, Lo: low, Hi: high, X: x} }
func next(x int) inst             { return bytes(0, 255, x) }
func split(x, y int) inst         { return inst{Op: opSplit, X: x, Y: y} }
func slot(at, x int) inst         { return inst{Op: opCap, Lo: at, X: x} }
func assert(kind, x int) inst     { return inst{Op: opAssert, Lo: kind, X: x} }
func match() inst                 { return inst{Op: opMatch} }
func fail() inst                  { return inst{Op: opFail} }

// of returns the program of these instructions.
func of(start, slots int, l ...inst) code { return code{Insts: l, Start: start, Slots: slots} }

// made returns that many instructions, the one with the number i made by f.
func made(number int, f func(i int) inst) []inst {
	var out []inst
	for i := range number {
		out = append(out, f(i))
	}
	return out
}

func within(n, least, greatest int) bool { return least <= n && n <= greatest }

// modelFits is the definition of the fields of an instruction, word by word.
func modelFits(x inst) bool {
	target := within(x.X, 0, maxProg-1)
	switch x.Op {
	case opByte:
		return within(x.Lo, 0, 255) && within(x.Hi, 0, 255) && x.Lo <= x.Hi && target && x.Y == 0
	case opSplit:
		return x.Lo == 0 && x.Hi == 0 && target && within(x.Y, 0, maxProg-1)
	case opCap:
		return within(x.Lo, 0, maxSlots-1) && x.Hi == 0 && target && x.Y == 0
	case opAssert:
		return within(x.Lo, 1, 6) && x.Hi == 0 && target && x.Y == 0
	case opMatch, opFail:
		return x == inst{Op: x.Op}
	}
	return false
}

// modelOk is the definition of programs that are well formed.
func modelOk(p code) bool {
	return within(len(p.Insts), 1, maxProg) && !slices.ContainsFunc(p.Insts, func(x inst) bool { return !modelFits(x) }) && within(p.Start, 0, maxProg-1) && within(p.Slots, 0, maxSlots)
}

// modelLeads returns to which x leads.
func modelLeads(x inst) []int {
	switch x.Op {
	case opMatch, opFail:
		return nil
	case opSplit:
		return []int{x.X, x.Y}
	}
	return []int{x.X}
}

// leadsEmpty reports whether x leads to instruction i without consuming a byte.
func leadsEmpty(x inst, i int) bool { return x.Op != opByte && slices.Contains(modelLeads(x), i) }

// modelReach returns what can be reached from instruction i of l in one step or more: in those of bytes, too, or without them.
func modelReach(l []inst, i int, bytesToo bool) map[int]bool {
	out := map[int]bool{}
	var from func(i int)
	from = func(i int) {
		if l[i].Op == opByte && !bytesToo {
			return
		}
		for _, t := range modelLeads(l[i]) {
			if !out[t] {
				out[t] = true
				from(t)
			}
		}
	}
	from(i)
	return out
}

// modelLoops returns those of l that lead back to themselves without consuming a byte.
func modelLoops(l []inst) []int {
	var out []int
	for i := range l {
		if modelReach(l, i, false)[i] {
			out = append(out, i)
		}
	}
	return out
}

// modelCheck is what 16.1 says of Check.
func modelCheck(p code) api.Code {
	if !modelOk(p) {
		return errProg
	}
	for _, t := range modelTargets(p) {
		if t >= len(p.Insts) {
			return errTarget
		}
	}
	if p.Slots%2 == 1 || p.Slots < 2 {
		return errSlot
	}
	for _, x := range p.Insts {
		if x.Op == opCap && !within(x.Lo, 2, p.Slots-1) {
			return errSlot
		}
	}
	if len(modelLoops(p.Insts)) > 0 {
		return errLoop
	}
	return fine
}

// modelTargets returns where p starts and all targets of its instructions.
func modelTargets(p code) []int {
	out := []int{p.Start}
	for _, x := range p.Insts {
		out = append(out, modelLeads(x)...)
	}
	return out
}

// modelOrder is the definition of the order, step by step.
func modelOrder(l []inst) []int {
	var remaining, out []int
	for i := range l {
		remaining = append(remaining, i)
	}
	for len(remaining) > 0 {
		at := slices.IndexFunc(remaining, func(i int) bool {
			return !slices.ContainsFunc(remaining, func(j int) bool { return leadsEmpty(l[j], i) })
		})
		out = append(out, remaining[at])
		remaining = slices.Delete(remaining, at, at+1)
	}
	return out
}

// modelReached is the definition of Reached.
func modelReached(p code) []int {
	known := modelReach(p.Insts, p.Start, true)
	known[p.Start] = true
	var out []int
	for i := range p.Insts {
		if known[i] {
			out = append(out, i)
		}
	}
	return out
}

func equal(a, b code) bool {
	return slices.Equal(a.Insts, b.Insts) && a.Start == b.Start && a.Slots == b.Slots
}

// rejected holds Check and New of p against an error.
func rejected(t *testing.T, p code, want api.Code) {
	t.Helper()
	if e := verify.Check(p); e != want {
		t.Errorf("Check(%s) = %d, not %d", brief(p), e, want)
	}
	if c, e := verify.New(p); c != nil || e != want {
		t.Errorf("New(%s) = %v, %d, not %d", brief(p), c != nil, e, want)
	}
}

// accepted returns the checked program of p, which can be run.
func accepted(t *testing.T, p code) *verify.Checked {
	t.Helper()
	if e := verify.Check(p); e != fine {
		t.Fatalf("Check(%s) = %d", brief(p), e)
	}
	c, e := verify.New(p)
	if c == nil || e != fine {
		t.Fatalf("New(%s) = %v, %d", brief(p), c != nil, e)
	}
	return c
}

// fields holds all of c against p, but for the lists.
func fields(t *testing.T, c *verify.Checked, p code) {
	t.Helper()
	if got := c.Prog(); !equal(got, p) {
		t.Errorf("Prog() of %s is %s", brief(p), brief(got))
	}
	if c.Len() != len(p.Insts) || c.Start() != p.Start || c.Slots() != p.Slots {
		t.Errorf("%s has %d instructions, starts at %d and has %d slots", brief(p), c.Len(), c.Start(), c.Slots())
	}
	for i := -2; i < len(p.Insts)+2; i++ {
		var want inst
		if within(i, 0, len(p.Insts)-1) {
			want = p.Insts[i]
		}
		if got := c.Inst(i); got != want {
			t.Errorf("Inst(%d) of %s is %v", i, brief(p), got)
		}
	}
}

// held holds everything about p against the definitions.
func held(t *testing.T, p code) {
	t.Helper()
	want := modelCheck(p)
	if want != fine {
		rejected(t, p, want)
		return
	}
	c := accepted(t, p)
	fields(t, c, p)
	lists(t, c, p, modelOrder(p.Insts), modelReached(p))
}

// lists holds Order and Reached of c, which is made of p, against lists.
func lists(t *testing.T, c *verify.Checked, p code, order, reached []int) {
	t.Helper()
	if got := c.Order(); !slices.Equal(got, order) {
		t.Errorf("Order() of %s is %s, not %s", brief(p), cut(fmt.Sprint(got)), cut(fmt.Sprint(order)))
	}
	if got := c.Reached(); !slices.Equal(got, reached) {
		t.Errorf("Reached() of %s is %s, not %s", brief(p), cut(fmt.Sprint(got)), cut(fmt.Sprint(reached)))
	}
}

// brief is p, as far as a line has room for it.
func brief(p code) string { return cut(fmt.Sprintf("%d %d %v", p.Start, p.Slots, p.Insts)) }

func cut(s string) string {
	if len(s) > 300 {
		return s[:300] + ".."
	}
	return s
}

func random(seed uint64) *rand.Rand { return rand.New(rand.NewPCG(seed, 16)) }

// anyProg returns a program of some instructions, all of whose targets are there. Without a byte they lead on by a list of all
// of them in some order, so that there is no empty loop; sometimes one of them leads to any other.
func anyProg(r *rand.Rand, longest int) code {
	number := 1 + r.IntN(longest)
	p := of(r.IntN(number), 2*(1+r.IntN(4)), make([]inst, number)...)
	line := r.Perm(number)
	for at, i := range line {
		onward := func() int { return line[at+1+r.IntN(number-at-1)] }
		switch kind := r.IntN(8); {
		case at == number-1 || kind == 0:
			p.Insts[i] = []inst{match(), fail(), next(r.IntN(number))}[r.IntN(3)]
		case kind < 3:
			p.Insts[i] = bytes(r.IntN(100), 100+r.IntN(156), r.IntN(number))
		case kind < 4 && p.Slots > 2:
			p.Insts[i] = slot(2+r.IntN(p.Slots-2), onward())
		case kind < 5:
			p.Insts[i] = assert(1+r.IntN(6), onward())
		default:
			p.Insts[i] = split(onward(), onward())
		}
	}
	if i := r.IntN(number); r.IntN(3) == 0 && len(modelLeads(p.Insts[i])) > 0 {
		p.Insts[i].X = r.IntN(number)
	}
	return p
}

// isNew reports whether no element of a list, and of what lies behind it, is one of those that are known, and adds them.
func isNew[T comparable](known map[*T]bool, l []T) bool {
	all := l[:cap(l)]
	for i := range all {
		if known[&all[i]] {
			return false
		}
		known[&all[i]] = true
	}
	return true
}

// text is a list of instructions, for names of tests.
func text(l []inst) string { return strings.Trim(fmt.Sprint(l), "[]") }
