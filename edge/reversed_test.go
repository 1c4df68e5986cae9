package edge_test

import (
	"regexp"
	"slices"
	"testing"

	"burin/api"
	"burin/edge"
)

// turned is the assertion that holds in the reversed string where each one holds.
var turned = map[int]int{api.ABegin: api.AEnd, api.AEnd: api.ABegin, api.ALine: api.ALineEnd, api.ALineEnd: api.ALine, api.AWord: api.AWord, api.ANoWord: api.ANoWord}

// turn returns a bit set of assertions as it is in the reversed string.
func turn(bits int) int {
	out := 0
	for k, other := range turned {
		out |= bits >> k & 1 << other
	}
	return out
}

func TestReversedBytes(t *testing.T) {
	every := append(append(allBytes(), -1, 256), noBytes()...)
	for _, x := range every {
		for _, y := range every {
			if got, want := edge.Between(y, x), turn(edge.Between(x, y)); got != want {
				t.Error(y, x, got, want)
			}
		}
	}
}

func TestReversedTexts(t *testing.T) {
	for _, text := range samples() {
		other := mirrored(text)
		for i := range len(text) + 1 {
			if got, want := edge.At(other, len(text)-i), turn(edge.At(text, i)); got != want {
				t.Errorf("%q, %d: %d, want %d", other, len(text)-i, got, want)
			}
			for k, kk := range turned {
				if edge.Holds(kk, other, len(text)-i) != edge.Holds(k, text, i) {
					t.Errorf("Holds(%d, %q, %d)", kk, other, len(text)-i)
				}
			}
		}
		for _, i := range outside(len(text)) {
			if edge.At(other, len(text)-i) != 0 || edge.At(text, i) != 0 {
				t.Errorf("%q, %d", text, i)
			}
		}
	}
}

// Reversed texts by hand.
func TestReversedByHand(t *testing.T) {
	for _, x := range []struct {
		text      string
		want, out []int
	}{
		{"", []int{94}, []int{94}},
		{"ab", []int{42, 64, 52}, []int{42, 64, 52}},
		{"a\n", []int{42, 48, 92}, []int{90, 40, 52}},
		{"a-", []int{42, 32, 84}, []int{74, 32, 52}},
		{"\na -", []int{90, 40, 32, 64, 84}, []int{74, 64, 32, 48, 92}},
	} {
		if got := everywhere(x.text); !slices.Equal(got, x.want) {
			t.Errorf("%q: %v, want %v", x.text, got, x.want)
		}
		if got := everywhere(mirrored(x.text)); !slices.Equal(got, x.out) {
			t.Errorf("%q reversed: %v, want %v", x.text, got, x.out)
		}
	}
}

// Where Go's regexp finds each assertion. (Its offsets are those between runes, so the texts have no rune of several bytes.)
func TestLibrary(t *testing.T) {
	for kind, pattern := range map[int]string{api.ABegin: `\A`, api.AEnd: `\z`, api.ALine: `(?m)^`, api.ALineEnd: `(?m)$`, api.AWord: `\b`, api.ANoWord: `\B`} {
		find := regexp.MustCompile(pattern)
		for _, text := range append(texts("a_\n -", 5), texts("/09:@AZ[`az{\x00\r\x7F\x80\xFF", 3)...) {
			var want, got []int
			for _, found := range find.FindAllStringIndex(text, -1) {
				want = append(want, found[0])
			}
			for i := -1; i <= len(text)+1; i++ {
				if edge.Holds(kind, text, i) {
					got = append(got, i)
				}
			}
			if !slices.Equal(got, want) {
				t.Errorf("%s in %q: at %v, want %v", pattern, text, got, want)
			}
		}
	}
}

// Every call returns the same again, whichever calls came before.
func TestCallsAreIndependent(t *testing.T) {
	for _, x := range written {
		first := everywhere(x.text)
		edge.At("a\nb", 1)
		edge.Between(1<<40, -7)
		edge.Holds(99, x.text, -4)
		edge.Word(-1)
		if got := everywhere(x.text); !slices.Equal(got, first) {
			t.Errorf("%q: %v, then %v", x.text, first, got)
		}
	}
}
