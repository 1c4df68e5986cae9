package lex_test

import (
	"fmt"
	"slices"
	"testing"

	"burin/api"
	"burin/lex"
)

// clone returns a copy of l in new memory.
func clone(l []token) []token {
	l = slices.Clone(l)
	for i := range l {
		l[i].Set = slices.Clone(l[i].Set)
	}
	return l
}

// overwriteList writes to all the memory of l.
func overwriteList(l list) {
	l = l[:cap(l)]
	for i := range l {
		l[i] = api.Range{Lo: -99, Hi: -100}
	}
}

// overwrite writes to all the memory of l and of its sets.
func overwrite(l []token) {
	l = l[:cap(l)]
	for i := range l {
		overwriteList(l[i].Set)
		l[i] = token{Kind: -99, Name: "overwritten"}
	}
}

// manySets are patterns of sets, of which some are equal.
var manySets = []string{`\d`, `\d\d`, `\d\D\s\S\w\W\d\D\s\S\w\W`, `\pL\PL\pL\PL`, `\p{Greek}\p{Greek}\P{Greek}\P{Greek}`, `\p{^Any}\P{Any}\p{Any}\p{Any}`, `[\d]\d[\d]`}

func TestResultsAreNewMemory(t *testing.T) {
	for _, s := range slices.Concat(manySets, longOnes, []string{"", "a", "a{2,}?", "(?P<x>", "[a]", `\Qa\E`}) {
		result := func() []token {
			l, _, _ := lex.Lex(s)
			return l
		}
		want := clone(result())
		first, second := result(), result()
		overwrite(second)
		if !slices.EqualFunc(first, want, equal) {
			t.Errorf("the results of Lex(%q) share memory", s)
		}
		overwrite(first)
		lexed(t, s, want...)
	}
}

func TestSetsOfOneResultShareNoMemory(t *testing.T) {
	for _, s := range manySets {
		l, _, _ := lex.Lex(s)
		want := clone(l)
		for i := range l {
			overwriteList(l[i].Set)
			if rest := l[i+1:]; !slices.EqualFunc(rest, want[i+1:], equal) {
				t.Errorf("Lex(%q): the set of token %d shares memory with a later one", s, i)
			}
		}
	}
}

func TestCallsDoNotInfluenceOneAnother(t *testing.T) {
	results := func() []string {
		var out []string
		add := func(s string) {
			l, at, e := lex.Lex(s)
			out = append(out, fmt.Sprint(s, l, at, int(e)))
		}
		for s := range accepted {
			add(s)
		}
		for s := range refusals {
			add(s)
		}
		slices.Sort(out)
		return out
	}
	// The maps are walked in another order each time.
	if !slices.Equal(results(), results()) {
		t.Error("the same calls in another order return other results")
	}
}
