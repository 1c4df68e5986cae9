package sem

import "burin/api"

// assigned is an assignment of a slot, and those before it. What comes before is shared by all that follows, so that a
// match need not be copied for each way on which it may go on.
type assigned struct {
	slot, value int
	before      *assigned
}

// values returns the last value of each of that many slots, with -1 for those that were not assigned.
func (a *assigned) values(many int) []int {
	out := make([]int, many)
	for slot := range out {
		out[slot] = -1
	}
	for ; a != nil; a = a.before {
		if out[a.slot] < 0 {
			out[a.slot] = a.value
		}
	}
	return out
}

// brief returns the last assignment of each slot alone.
func (a *assigned) brief() *assigned {
	var out *assigned
	for slot, value := range a.values(api.MaxSlots) {
		if value >= 0 {
			out = &assigned{slot, value, out}
		}
	}
	return out
}

// and returns the assignments of a and then those of later, which assigns each slot at most once.
func (a *assigned) and(later *assigned) *assigned {
	for ; later != nil; later = later.before {
		a = &assigned{later.slot, later.value, a}
	}
	return a
}
