package show_test

import (
	"slices"
	"strings"
	"testing"

	"burin/api"
	"burin/show"
)

// behind is what lies behind the slices of a tree, in their spare capacity.
var behind = node{Kind: -99, Name: "behind"}

// room returns a copy of n in new memory, in which more lies behind each slice.
func room(n node) node {
	set := append(make([]api.Range, 0, len(n.Set)+2), n.Set...)
	copy(set[len(set):cap(set)], of(7, 7, 3, 3))
	subs := make([]node, 0, len(n.Subs)+2)
	for _, sub := range n.Subs {
		subs = append(subs, room(sub))
	}
	copy(subs[len(subs):cap(subs)], []node{behind, a()})
	n.Set, n.Subs = set, subs
	return n
}

// isRoom reports whether x is what room makes of n, also behind each slice.
func isRoom(x, n node) bool {
	for i, sub := range x.Subs {
		if i >= len(n.Subs) || !isRoom(sub, n.Subs[i]) {
			return false
		}
	}
	set, subs := x.Set[:cap(x.Set)], x.Subs[:cap(x.Subs)]
	x.Subs, n.Subs = nil, nil
	return equal(x, n) && slices.Equal(set[len(set)-2:], of(7, 7, 3, 3)) && slices.EqualFunc(subs[len(subs)-2:], []node{behind, a()}, equal)
}

// overwrite writes to all the memory of n.
func overwrite(n node) {
	for i := range n.Set {
		n.Set[i] = api.Range{Lo: -99, Hi: -100}
	}
	for i := range n.Subs {
		overwrite(n.Subs[i])
		n.Subs[i] = behind
	}
}

// samples are trees with patterns, trees that are too long, and nodes that are no trees.
func samples() []node {
	var out []node
	for _, x := range all() {
		out = append(out, x.n, group(1, cat(append(letters(longest-3), renumbered(x.n, 1))...)))
	}
	for _, x := range refusals() {
		if x.e != api.ErrDeep {
			out = append(out, x.n)
		}
	}
	return out
}

func TestTreesAreNotChanged(t *testing.T) {
	for _, n := range samples() {
		x := room(n)
		if !isRoom(x, n) {
			t.Fatalf("there is no room in %s", cut(text(n)))
		}
		s, e := show.Show(x)
		if !isRoom(x, n) {
			t.Errorf("Show(%s) changes the tree", cut(text(n)))
		}
		if wantS, wantE := show.Show(n); s != wantS || e != wantE {
			t.Errorf("what lies behind the slices of %s matters", cut(text(n)))
		}
	}
}

func TestResultsAreNewMemory(t *testing.T) {
	for _, n := range samples() {
		x := room(n)
		s, e := show.Show(x)
		want := strings.Clone(s)
		overwrite(x)
		again, againE := show.Show(room(n))
		if s != want || again != want || againE != e {
			t.Errorf("the results of Show(%s) share memory: %q, %q, %q", cut(text(n)), cut(s), cut(again), cut(want))
		}
	}
}

// Many calls at the same time are as many calls one after another: nothing is kept from one to the next.
func TestCallsDoNotInfluenceOneAnother(t *testing.T) {
	type result struct {
		s string
		e api.Code
	}
	results := func(l []node) []result {
		var out []result
		for _, n := range l {
			s, e := show.Show(n)
			out = append(out, result{s, e})
		}
		return out
	}
	l := samples()
	want := results(l)
	backward := slices.Clone(l)
	slices.Reverse(backward)
	got := results(backward)
	slices.Reverse(got)
	if !slices.Equal(got, want) {
		t.Error("the same calls in another order return other results")
	}
	done := make(chan []result)
	for range 8 {
		go func() { done <- results(l) }()
	}
	for range 8 {
		if !slices.Equal(<-done, want) {
			t.Error("the same calls at the same time return other results")
		}
	}
}
