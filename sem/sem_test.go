package sem_test

import (
	"slices"
	"strconv"
	"strings"

	"burin/api"
)

type node = api.Node

// The kinds of nodes.

func empty() node           { return node{Kind: 1} }
func none() node            { return node{Kind: 2} }
func one(r int) node        { return set(r, r) }
func anyByte() node         { return node{Kind: 4} }
func assert(num int) node   { return node{Kind: 5, Num: num} }
func cat(subs ...node) node { return node{Kind: 7, Subs: subs} }
func alt(subs ...node) node { return node{Kind: 8, Subs: subs} }

// set is a KSet with the ends of its ranges.
func set(ends ...int) node {
	n := node{Kind: 3}
	for i := 0; i < len(ends); i += 2 {
		n.Set = append(n.Set, api.Range{Lo: ends[i], Hi: ends[i+1]})
	}
	return n
}

func group(num int, sub node) node { return node{Kind: 6, Num: num, Subs: []node{sub}} }

func repeat(high int, sub node) node { return node{Kind: 9, Max: high, Subs: []node{sub}} }

func lazy(high int, sub node) node {
	return node{Kind: 9, Max: high, Lazy: true, Subs: []node{sub}}
}

func star(sub node) node { return repeat(-1, sub) }

// The letters that the tests need most.

func a() node { return one('a') }
func b() node { return one('b') }
func c() node { return one('c') }

// chain puts n under as many further nodes, each made by wrap.
func chain(levels int, n node, wrap func(node) node) node {
	for range levels {
		n = wrap(n)
	}
	return n
}

// texts returns all texts of up to that many of the letters.
func texts(letters string, longest int) []string {
	out := []string{""}
	for first := 0; longest > 0; longest-- {
		next := len(out)
		for _, s := range out[first:next] {
			for i := range len(letters) {
				out = append(out, s+letters[i:i+1])
			}
		}
		first = next
	}
	return out
}

// spell is a core for a reader, shortened if it is long.
func spell(n node) string {
	s := spelled(n)
	if len(s) > 400 {
		return s[:200] + " ... " + s[len(s)-200:]
	}
	return s
}

func spelled(n node) string {
	var subs []string
	for _, sub := range n.Subs {
		subs = append(subs, spelled(sub))
	}
	inner := strings.Join(subs, " ")
	if n.Kind == api.KAlt {
		inner = strings.Join(subs, " | ")
	}
	switch n.Kind {
	case api.KEmpty, api.KNone, api.KByte:
		return []string{1: "empty", 2: "none", 4: "byte"}[n.Kind]
	case api.KSet:
		var l []string
		for _, x := range n.Set {
			l = append(l, strconv.FormatInt(int64(x.Lo), 16)+"-"+strconv.FormatInt(int64(x.Hi), 16))
		}
		return "[" + strings.Join(l, " ") + "]"
	case api.KAssert:
		return "assert" + strconv.Itoa(n.Num)
	case api.KGroup:
		return "(" + strconv.Itoa(n.Num) + ": " + inner + ")"
	case api.KCat, api.KAlt:
		return "(" + inner + ")"
	}
	return inner + "{" + strconv.Itoa(n.Min) + "," + strconv.Itoa(n.Max) + "}" + map[bool]string{true: "?"}[n.Lazy]
}

// decimal is a number as text.
func decimal(x int) string { return strconv.Itoa(x) }

// numbers returns those of a text.
func numbers(s string) []int {
	var out []int
	for _, f := range strings.Fields(s) {
		x, _ := strconv.Atoi(f)
		out = append(out, x)
	}
	return slices.Clip(out)
}
