package verify

import (
	"math/bits"

	"burin/api"
)

// targets returns the instructions to which x leads.
func targets(x api.Inst) []int {
	var out []int
	switch x.Op {
	case api.OSplit:
		out = append(out, x.Y)
		fallthrough
	case api.OByte, api.OCap, api.OAssert:
		out = append(out, x.X)
	}
	return out
}

// emptyTargets returns the instructions to which x leads without consuming a byte.
func emptyTargets(x api.Inst) []int {
	if x.Op == api.OByte {
		return nil
	}
	return targets(x)
}

// order returns the order of l, as far as it goes: what an empty loop leads to, itself included, is missing.
func order(l []api.Inst) []int {
	out := make([]int, 0, len(l))
	ahead := countAhead(l)
	var free set
	for i, n := range ahead {
		if n == 0 {
			free.add(i)
		}
	}
search:
	for len(out) < len(l) {
		for w := range free {
			if free[w] == 0 {
				continue
			}
			i := w*64 + bits.TrailingZeros64(free[w])
			free[w] &= free[w] - 1
			out = append(out, i)
			for _, t := range emptyTargets(l[i]) {
				if ahead[t]--; ahead[t] == 0 {
					free.add(t)
				}
			}
			continue search
		}
		// Each remaining instruction has a remaining one ahead of it: following them back ends in an empty loop.
		break search
	}
	return out
}

// countAhead returns for each instruction of l how often others, or itself, lead to it without consuming a byte.
func countAhead(l []api.Inst) []int {
	out := make([]int, len(l))
	for _, x := range l {
		for _, t := range emptyTargets(x) {
			out[t]++
		}
	}
	return out
}

// set holds numbers of instructions as bits, so that the smallest is found among few words.
type set [(api.MaxProg + 63) / 64]uint64

func (s *set) add(i int) { s[i/64] |= 1 << (i % 64) }

// reached returns where p starts and all that can be reached from there, in ascending order.
func reached(p api.Prog) []int {
	known := make([]bool, len(p.Insts))
	known[p.Start] = true
	for open := []int{p.Start}; len(open) > 0; {
		last := len(open) - 1
		x := p.Insts[open[last]]
		open = open[:last]
		for _, t := range targets(x) {
			if !known[t] {
				known[t] = true
				open = append(open, t)
			}
		}
	}
	var out []int
	for i, ok := range known {
		if ok {
			out = append(out, i)
		}
	}
	return out
}
