package tree_test

import (
	"reflect"
	"slices"
	"testing"

	"burin/api"
	"burin/tree"
)

// clone returns a copy of n in new memory.
func clone(n node) node {
	n.Set = slices.Clone(n.Set)
	n.Subs = slices.Clone(n.Subs)
	for i, sub := range n.Subs {
		n.Subs[i] = clone(sub)
	}
	return n
}

// room returns a copy of n in which more lies behind each slice.
func room(n node) node {
	set := append(make([]api.Range, 0, len(n.Set)+2), n.Set...)
	copy(set[len(set):cap(set)], of(7, 7, 3, 3))
	subs := make([]node, 0, len(n.Subs)+2)
	for _, sub := range n.Subs {
		subs = append(subs, room(sub))
	}
	copy(subs[len(subs):cap(subs)], []node{group(1, "behind", kind(0)), empty()})
	n.Set, n.Subs = set, subs
	return n
}

// whole returns a copy of n in which everything that lies behind its slices belongs to them.
func whole(n node) node {
	n.Set = slices.Clone(n.Set[:cap(n.Set)])
	var subs []node
	for _, sub := range n.Subs[:cap(n.Subs)] {
		subs = append(subs, whole(sub))
	}
	n.Subs = subs
	return n
}

// overwrite writes to all the memory of the slices of n, and behind them.
func overwrite(n node) {
	for i := range n.Set[:cap(n.Set)] {
		n.Set[:cap(n.Set)][i] = api.Range{Lo: -99, Hi: -100}
	}
	for i, sub := range n.Subs[:cap(n.Subs)] {
		overwrite(sub)
		n.Subs[:cap(n.Subs)][i] = node{Kind: -99, Name: "overwritten"}
	}
}

// everything calls all functions, with a walk whose nodes are overwritten.
func everything(n node) (api.Code, int, int, []string, bool, bool) {
	for _, x := range tree.Walk(n) {
		overwrite(x)
	}
	names := tree.Groups(n)
	for i := range names[:cap(names)] {
		names[:cap(names)][i] = "overwritten"
	}
	return tree.Check(n), tree.Size(n), tree.Depth(n), tree.Groups(n), tree.Nullable(n), tree.Same(n, n)
}

// samples are trees for these tests: few of them deep.
func samples() []node {
	return slices.Concat(shallow(), odd(), deep()[:6], many(10)[:2000])
}

func TestTreesAreNotChanged(t *testing.T) {
	for _, n := range samples() {
		x := room(n)
		before := whole(x)
		everything(x)
		tree.Same(x, clone(n))
		if !reflect.DeepEqual(whole(x), before) {
			t.Fatalf("%s is changed", about(n))
		}
	}
}

func TestElementsBehindASliceAreNotRead(t *testing.T) {
	for _, n := range samples() {
		x := room(n)
		e, size, depth, names, nullable, same := everything(x)
		if e != modelCheck(n) || size != len(flat(n, api.MaxNest)) || depth != modelDepth(n) || !slices.Equal(names, modelGroups(n)) ||
			nullable != modelNullable(n, 1) || same != (depth <= api.MaxNest) {
			t.Fatalf("what lies behind the slices of %s matters", about(n))
		}
		if depth <= api.MaxNest && (!tree.Same(x, n) || !tree.Same(n, x)) {
			t.Fatalf("%s is another tree with something behind its slices", about(n))
		}
	}
}

func TestNodesOfAWalkShareNoMemory(t *testing.T) {
	for _, n := range samples()[:300] {
		x := room(n)
		before := whole(x)
		steps := flat(n, api.MaxNest)
		walk := tree.Walk(x)
		for range 2 {
			var got []node
			for _, y := range walk {
				got = append(got, y)
			}
			for i, y := range got {
				// The ones before it are overwritten by now.
				if len(got) < 500 && !equal(y, steps[i].node) {
					t.Fatalf("step %d of %s shares memory with another", i, about(n))
				}
				overwrite(y)
			}
		}
		if !reflect.DeepEqual(whole(x), before) {
			t.Fatalf("a walk gives out the memory of %s", about(n))
		}
	}
}

func TestAWalkIsOverTheTreeThatWasPassed(t *testing.T) {
	for _, n := range samples()[:300] {
		if tree.Depth(n) > 100 {
			continue
		}
		x := clone(n)
		steps := flat(n, api.MaxNest)
		walk := tree.Walk(x)
		overwrite(x)
		i := 0
		for depth, y := range walk {
			if i == len(steps) || depth != steps[i].depth || !equal(y, steps[i].node) {
				t.Fatalf("step %d of %s is one of what was written to it later", i, about(n))
			}
			i++
		}
		if i != len(steps) {
			t.Fatalf("%s: %d steps, want %d", about(n), i, len(steps))
		}
	}
}

func TestATreeThatIsTwoSubsIsTwoTrees(t *testing.T) {
	one := cat(letter('a'), letter('b'))
	one.Subs[1].Set = one.Subs[0].Set
	n := alt(one, star(one), one)
	for _, x := range tree.Walk(n) {
		for i := range x.Subs {
			want := clone(x)
			overwrite(x.Subs[i])
			for k := range x.Subs {
				if k != i && !equal(x.Subs[k], want.Subs[k]) {
					t.Fatalf("the Subs %d and %d share memory", i, k)
				}
			}
			x = want
		}
	}
	if !equal(one, cat(letter('a'), letter('a'))) {
		t.Error("the tree is overwritten")
	}
}

func TestGroupsAreNewMemory(t *testing.T) {
	n := groups(5)
	first, second := tree.Groups(n), tree.Groups(n)
	for i := range second[:cap(second)] {
		second[:cap(second)][i] = "overwritten"
	}
	if want := []string{"g1", "g2", "g3", "g4", "g5"}; !slices.Equal(first, want) || !slices.Equal(tree.Groups(n), want) {
		t.Error("the results of Groups share memory")
	}
}
