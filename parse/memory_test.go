package parse_test

import (
	"fmt"
	"slices"
	"testing"

	"burin/api"
	"burin/parse"
)

// clone returns a copy of n in new memory.
func clone(n node) node {
	n.Set, n.Subs = slices.Clone(n.Set), slices.Clone(n.Subs)
	for i, sub := range n.Subs {
		n.Subs[i] = clone(sub)
	}
	return n
}

// overwrite writes to all the memory of n and of what is below it.
func overwrite(n node) {
	set := n.Set[:cap(n.Set)]
	for i := range set {
		set[i] = api.Range{Lo: -99, Hi: -100}
	}
	subs := n.Subs[:cap(n.Subs)]
	for i := range subs {
		overwrite(subs[i])
		subs[i] = node{Kind: -99, Name: "overwritten"}
	}
}

// tree is the tree of a pattern that is one.
func tree(t *testing.T, s string, flags int) node {
	t.Helper()
	n, _, e := parse.Parse(s, flags)
	if e != api.OK {
		t.Errorf("Parse(%q, %d): %d", s, flags, int(e))
	}
	return n
}

// withLists are patterns whose trees have many lists, of which some are equal.
func withLists() []string {
	out := []string{"aaaa", "..", `\d\d\D\D\w\W\s\S`, `\pL\pL\PL\PL\p{Any}\p{Any}`, "[a][a][^a][^a]", "(a|a|a)(a|a|a)", "(?i)kk[k][k]", "(?s)...", "((a))((a))", "a*a*a*", "(?:a*)*(?:a*)*", "(?:|||)(?:|||)", "a|b|c|d|e|f|g", "abcdefghi"}
	out = append(out, longOnes...)
	for s := range shapes {
		out = append(out, s)
	}
	for _, f := range atoms {
		out = append(out, f.source, f.source+f.source)
	}
	return out
}

func TestResultsAreNewMemory(t *testing.T) {
	for i, s := range withLists() {
		for _, flags := range []int{0, 15, i % 16} {
			want := clone(tree(t, s, flags))
			first, second := tree(t, s, flags), tree(t, s, flags)
			overwrite(second)
			if !equal(first, want) {
				t.Errorf("the results of Parse(%q, %d) share memory", s, flags)
			}
			overwrite(first)
			parsed(t, s, flags, want)
		}
	}
}

// nodes lists a node and all nodes below it, those below first, each with its own lists.
func nodes(n node) []node {
	var out []node
	for _, sub := range n.Subs {
		out = append(out, nodes(sub)...)
	}
	return append(out, n)
}

func TestListsOfOneResultShareNoMemory(t *testing.T) {
	for _, s := range withLists() {
		for _, flags := range []int{0, 15} {
			ranges := map[*api.Range]int{}
			subs := map[*node]int{}
			for _, n := range nodes(tree(t, s, flags)) {
				for i := range n.Set[:cap(n.Set)] {
					ranges[&n.Set[:cap(n.Set)][i]]++
				}
				for i := range n.Subs[:cap(n.Subs)] {
					subs[&n.Subs[:cap(n.Subs)][i]]++
				}
			}
			for _, times := range ranges {
				if times > 1 {
					t.Errorf("Parse(%q, %d): two sets share memory", s, flags)
				}
			}
			for _, times := range subs {
				if times > 1 {
					t.Errorf("Parse(%q, %d): two lists of Subs share memory", s, flags)
				}
			}
		}
	}
}

func TestCallsDoNotInfluenceOneAnother(t *testing.T) {
	results := func() []string {
		var out []string
		add := func(s string, flags int) {
			n, at, e := parse.Parse(s, flags)
			out = append(out, fmt.Sprint(s, flags, text(n), at, int(e)))
		}
		for s := range shapes {
			add(s, len(s)%16)
		}
		for s := range refusals {
			add(s, len(s)%16)
		}
		slices.Sort(out)
		return out
	}
	// The maps are walked in another order each time.
	if !slices.Equal(results(), results()) {
		t.Error("the same calls in another order return other results")
	}
}
