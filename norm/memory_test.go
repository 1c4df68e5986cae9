package norm_test

import (
	"reflect"
	"slices"
	"testing"

	"burin/api"
	"burin/norm"
)

// behind is what lies behind the slices of a tree, in their spare capacity.
var behind = node{Kind: -99, Name: "behind"}

// room returns a copy of n in new memory, in which more lies behind each slice.
func room(n node) node {
	set := append(make([]api.Range, 0, len(n.Set)+2), n.Set...)
	copy(set[len(set):cap(set)], of(7, 7, 3, 3))
	subs := make([]node, 0, len(n.Subs)+2)
	for _, sub := range n.Subs {
		subs = append(subs, room(sub))
	}
	copy(subs[len(subs):cap(subs)], []node{behind, group(31, a())})
	n.Set, n.Subs = set, subs
	return n
}

// isRoom reports whether x is what room makes of n, also behind each slice.
func isRoom(x, n node) bool {
	if len(x.Subs) != len(n.Subs) {
		return false
	}
	for i, sub := range x.Subs {
		if !isRoom(sub, n.Subs[i]) {
			return false
		}
	}
	set, subs := x.Set[:cap(x.Set)], x.Subs[:cap(x.Subs)]
	x.Subs, n.Subs = nil, nil
	return equal(x, n) && slices.Equal(set[len(set)-2:], of(7, 7, 3, 3)) && slices.EqualFunc(subs[len(subs)-2:], []node{behind, group(31, a())}, equal)
}

// memory collects the addresses of all elements of the slices of n, and of those behind them.
type memory struct {
	ranges map[*api.Range]bool
	nodes  map[*node]bool
	shared bool // whether any of them has been collected before
}

func (m *memory) collect(n node) {
	set, subs := n.Set[:cap(n.Set)], n.Subs[:cap(n.Subs)]
	for i := range set {
		m.shared = m.shared || m.ranges[&set[i]]
		m.ranges[&set[i]] = true
	}
	for i := range subs {
		m.shared = m.shared || m.nodes[&subs[i]]
		m.nodes[&subs[i]] = true
	}
	for _, sub := range n.Subs {
		m.collect(sub)
	}
}

func newMemory() *memory { return &memory{ranges: map[*api.Range]bool{}, nodes: map[*node]bool{}} }

// samples are trees, nodes that are none, and cores.
func samples() []node {
	var out []node
	for _, x := range all() {
		out = append(out, x.n, x.core, repeat(2, 3, x.n), star(alt(x.n, cat(a(), set('a', 'b', 'x', 'z')))))
	}
	out = append(out, faults()...)
	for _, x := range loads {
		out = append(out, x.n)
	}
	return out
}

// everything is what all functions return for n.
func everything(n node) (x node, e api.Code, w int, isCore api.Code, slots int) {
	x, e = norm.Core(n)
	return x, e, norm.Weight(n), norm.Check(n), norm.Slots(n)
}

func TestTreesAreNotChanged(t *testing.T) {
	for _, n := range samples() {
		x := room(n)
		if !isRoom(x, n) {
			t.Fatalf("there is no room in %s", cut(text(n)))
		}
		y, e, w, isCore, slots := everything(x)
		if !isRoom(x, n) {
			t.Errorf("%s is changed", cut(text(n)))
		}
		y2, e2, w2, isCore2, slots2 := everything(n)
		if !equal(y, y2) || e != e2 || w != w2 || isCore != isCore2 || slots != slots2 {
			t.Errorf("what lies behind the slices of %s matters", cut(text(n)))
		}
	}
}

func TestCoresAreNewMemory(t *testing.T) {
	for _, n := range samples() {
		x := room(n)
		m := newMemory()
		m.collect(x)
		if m.shared {
			t.Fatalf("%s itself shares memory", cut(text(n)))
		}
		y, _ := norm.Core(x)
		z, _ := norm.Core(x)
		m.collect(y)
		if m.shared {
			t.Errorf("the core of %s shares memory with it, or its lists share any", cut(text(n)))
		}
		m.collect(z)
		if m.shared {
			t.Errorf("two cores of %s share memory", cut(text(n)))
		}
	}
}

// The same parts may stand in a tree several times; the core has them in new memory each time.
func TestPartsThatAreSharedAreCopied(t *testing.T) {
	x := room(set('a', 'b', 'd', 'e', 'x', 'z'))
	two := cat(x, alt(x, a()))
	for _, n := range []node{cat(x, x), alt(x, x), cat(two, two), repeat(3, 3, x), repeat(2, -1, cat(x, x)), repeat(1, 4, two), star(alt(two, x, star(two))), alt(repeat(5, 5, alt(two, two)), two)} {
		y, e := norm.Core(n)
		m := newMemory()
		m.collect(y)
		if e != api.OK || m.shared || !equal(y, modelCore(n)) {
			t.Errorf("Core(%s) = %s, %d with shared memory", cut(text(n)), cut(text(y)), int(e))
		}
		for at := range x.Set {
			if m.ranges[&x.Set[at]] {
				t.Errorf("Core(%s) shares the set", cut(text(n)))
			}
		}
	}
}

// overwrite writes to all the memory of n.
func overwrite(n node) {
	set, subs := n.Set[:cap(n.Set)], n.Subs[:cap(n.Subs)]
	for i := range set {
		set[i] = api.Range{Lo: -99, Hi: -100}
	}
	for _, sub := range n.Subs {
		overwrite(sub)
	}
	for i := range subs {
		subs[i] = behind
	}
}

func TestOverwrittenTreesAndCores(t *testing.T) {
	for _, n := range samples() {
		x := room(n)
		y, e := norm.Core(x)
		overwrite(x)
		want, wantE := norm.Core(room(n))
		if !equal(y, want) || e != wantE {
			t.Errorf("the core of %s changes with the tree", cut(text(n)))
		}
		overwrite(y)
		if again, _ := norm.Core(room(n)); !equal(again, want) {
			t.Errorf("the core of %s changes with another result", cut(text(n)))
		}
	}
}

// Many calls at the same time are as many calls one after another: nothing is kept from one to the next.
func TestCallsDoNotInfluenceOneAnother(t *testing.T) {
	type result struct {
		x             node
		e, isCore     api.Code
		weight, slots int
	}
	l := samples()
	results := func(l []node) []result {
		var out []result
		for _, n := range l {
			x, e, w, isCore, slots := everything(n)
			out = append(out, result{x, e, isCore, w, slots})
		}
		return out
	}
	want := results(l)
	backward := slices.Clone(l)
	slices.Reverse(backward)
	got := results(backward)
	slices.Reverse(got)
	if !reflect.DeepEqual(got, want) {
		t.Error("the same calls in another order return other results")
	}
	done := make(chan []result)
	for range 4 {
		go func() { done <- results(l) }()
	}
	for range 4 {
		if !reflect.DeepEqual(<-done, want) {
			t.Error("the same calls at the same time return other results")
		}
	}
}
