package sem

import "burin/api"

// part is a node of a core. Parts are numbered in preorder; those below it are its Subs.
type part struct {
	api.Node
	below  []int
	weight int // how many tasks the part becomes, at most, where each round of a repetition has its own; or heaviest + 1
}

// heaviest is the greatest weight of a repetition whose rounds have tasks of their own. (Those of heavier ones would be too
// many, since limits of repetitions within one another multiply.) Cores that Core of chapter 11 returns are not heavier:
// they are limited by the weight of that chapter, of which each unit becomes at most two tasks.
const heaviest = 2 * api.MaxProg

// partsOf returns the parts of n, a core.
func partsOf(n api.Node) []part {
	var l []part
	addPart(&l, n)
	return l
}

// addPart adds n and what is below it to the list, and returns the number of n.
func addPart(l *[]part, n api.Node) int {
	number := len(*l)
	*l = append(*l, part{Node: n})
	var below []int
	sum := 0
	for _, sub := range n.Subs {
		i := addPart(l, sub)
		below = append(below, i)
		sum += (*l)[i].weight
	}
	p := &(*l)[number]
	p.below, p.weight = below, min(weight(n, sum), heaviest+1)
	return number
}

// weight returns the weight of n, whose Subs have these weights together.
func weight(n api.Node, sum int) int {
	switch n.Kind {
	case api.KGroup:
		return 2 + sum
	case api.KCat:
		return len(n.Subs) + sum
	case api.KRepeat:
		if n.Max == -1 {
			return 2 + sum
		}
		return 1 + n.Max*(1+sum)
	}
	return 1 + sum
}
