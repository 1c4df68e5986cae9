package sem_test

import (
	"math/rand/v2"
	"reflect"
	"slices"
	"testing"

	"burin/api"
	"burin/sem"
)

// behindSet and behindSubs lie behind the slices of a node, in their spare capacity.
var (
	behindSet  = []api.Range{{Lo: 0, Hi: api.MaxRune}, {Lo: 'a', Hi: 'b'}}
	behindSubs = []node{{Kind: -99, Name: "behind"}, {Kind: 4}}
)

// room returns a copy of n in new memory, in which more lies behind each slice.
func room(n node) node {
	var subs []node
	for _, sub := range n.Subs {
		subs = append(subs, room(sub))
	}
	n.Set = slices.Concat(n.Set, behindSet)[:len(n.Set)]
	n.Subs = slices.Concat(subs, behindSubs)[:len(subs)]
	return n
}

// extended returns n with what lies behind its slices as parts of them.
func extended(n node) node {
	n.Set, n.Subs = n.Set[:len(n.Set)+2], slices.Clone(n.Subs[:len(n.Subs)+2])
	for i := range len(n.Subs) - 2 {
		n.Subs[i] = extended(n.Subs[i])
	}
	return n
}

// answer is what both functions return for a core and a text.
type answer struct {
	ends   [][]int
	found  []api.Found
	errors []api.Code
}

// everything is what both functions return for n and each offset of the text, and beyond.
func everything(n node, text string) answer {
	var out answer
	for at := -1; at <= len(text)+1; at++ {
		l, e := sem.Ends(n, text, at)
		out.ends, out.errors = append(out.ends, l), append(out.errors, e)
		for _, x := range asks(text, at) {
			f, e := sem.Match(n, x)
			out.found, out.errors = append(out.found, f), append(out.errors, e)
		}
	}
	return out
}

// sample is a core, or a node that is none, with a text.
type sample struct {
	n    node
	text string
}

func samples() []sample {
	var out []sample
	for _, x := range endings {
		out = append(out, sample{x.n, x.text})
	}
	for _, x := range searches {
		out = append(out, sample{x.n, x.text})
	}
	for _, n := range faults() {
		out = append(out, sample{n, "ab"})
	}
	random := rand.New(rand.NewPCG(13, 400))
	for _, s := range styles {
		for range 20 {
			out = append(out, sample{someCore(random, 5, s), s.texts[random.IntN(len(s.texts))]})
		}
	}
	return out
}

func TestCoresAreNotChanged(t *testing.T) {
	for _, x := range samples() {
		n := room(x.n)
		before := extended(room(x.n))
		got := everything(n, x.text)
		if !reflect.DeepEqual(extended(n), before) {
			t.Errorf("%s is changed", spell(x.n))
		}
		if !reflect.DeepEqual(got, everything(x.n, x.text)) {
			t.Errorf("what lies behind the slices of %s matters", spell(x.n))
		}
	}
}

// Each result is new memory, with its spare capacity: writing to one changes neither another nor a later one.
func TestResultsAreNewMemory(t *testing.T) {
	for _, x := range samples() {
		want, got := everything(x.n, x.text), everything(x.n, x.text)
		var lists [][]int
		for _, l := range got.ends {
			lists = append(lists, l)
		}
		for _, f := range got.found {
			lists = append(lists, f.Slots)
		}
		places := map[*int]bool{}
		for _, l := range lists {
			l = l[:cap(l)]
			for i := range l {
				if places[&l[i]] {
					t.Fatalf("results for %s share memory", spell(x.n))
				}
				places[&l[i]] = true
				l[i] = -77
			}
		}
		if !reflect.DeepEqual(everything(x.n, x.text), want) {
			t.Errorf("results for %s change when earlier ones are overwritten", spell(x.n))
		}
	}
}

// Nothing of a core is kept: when it is overwritten, later calls for its old fields return the same.
func TestCoresAreNotKept(t *testing.T) {
	for _, x := range samples() {
		n := room(x.n)
		want := everything(n, x.text)
		overwrite(n)
		if got := everything(x.n, x.text); !reflect.DeepEqual(got, want) {
			t.Errorf("results for %s change with another core", spell(x.n))
		}
	}
}

// overwrite writes to all the memory of n.
func overwrite(n node) {
	for _, sub := range n.Subs {
		overwrite(sub)
	}
	for i := range n.Set {
		n.Set[i] = api.Range{Lo: 5, Hi: 1}
	}
	for i := range n.Subs {
		n.Subs[i] = node{Kind: -1}
	}
}

// A core may have the same memory at several places.
func TestSharedParts(t *testing.T) {
	x := group(1, alt(a(), star(b())))
	two := []node{x, x}
	for _, n := range []node{cat(two...), alt(two...), cat(star(cat(two...)), x, alt(two...)), {Kind: 7, Subs: two[:2]}, alt(repeat(1000, cat(two...)), repeat(1000, repeat(1000, cat(two...))))} {
		for _, text := range texts("ab", 3) {
			likeTheModel(t, n, text)
			if got, want := everything(n, text), everything(room(n), text); !reflect.DeepEqual(got, want) {
				t.Errorf("%s on %q: %v with shared memory, %v without", spell(n), text, got, want)
			}
		}
	}
}

// Many calls at the same time are as many calls one after another, in any order: nothing is kept from one to the next.
func TestCallsDoNotInfluenceOneAnother(t *testing.T) {
	l := samples()
	results := func(l []sample) []answer {
		var out []answer
		for _, x := range l {
			out = append(out, everything(x.n, x.text))
		}
		return out
	}
	want := results(l)
	backward := slices.Clone(l)
	slices.Reverse(backward)
	got := results(backward)
	slices.Reverse(got)
	if !reflect.DeepEqual(got, want) {
		t.Error("the same calls in another order return other results")
	}
	done := make(chan []answer)
	for range 4 {
		go func() { done <- results(l) }()
	}
	for range 4 {
		if !reflect.DeepEqual(<-done, want) {
			t.Error("the same calls at the same time return other results")
		}
	}
}
