package edge_test

import (
	"math"
	"slices"
	"strings"
	"testing"

	"burin/api"
	"burin/edge"
)

// everywhere returns the assertions that hold at each offset of text.
func everywhere(text string) []int {
	var out []int
	for i := range len(text) + 1 {
		out = append(out, edge.At(text, i))
	}
	return out
}

// outside returns offsets that are not from 0 to length.
func outside(length int) []int {
	out := []int{-1, -2, -3, -length - 1, -length - 2, length + 1, length + 2, length + 3, 2*length + 1, math.MinInt, math.MinInt + 1, math.MinInt + length, math.MaxInt, math.MaxInt - 1, math.MaxInt - length, math.MinInt32, math.MaxInt32}
	for _, lost := range []int{8, 16, 32, 33, 62} {
		out = append(out, 1<<lost+length, 1<<lost+length+1, -1<<lost, -1<<lost+length)
	}
	return slices.DeleteFunc(out, func(i int) bool { return 0 <= i && i <= length })
}

// noKinds returns numbers of which none is that of an assertion.
func noKinds() []int {
	out := []int{math.MinInt, math.MinInt + 1, math.MaxInt, math.MaxInt - 1, math.MinInt32, math.MaxInt32, math.MinInt8, math.MaxUint8}
	for k := -200; k <= 200; k++ {
		out = append(out, k)
	}
	for k := range 8 {
		for _, lost := range []int{6, 7, 8, 16, 31, 32, 33, 62} {
			out = append(out, 1<<lost+k, -1<<lost+k)
		}
		out = append(out, math.MinInt+k)
	}
	return slices.DeleteFunc(out, func(k int) bool { return 1 <= k && k <= 6 })
}

// The assertions at the offsets of some texts.
var written = []struct {
	text string
	want []int
}{
	{"", []int{94}},
	{"ab", []int{42, 64, 52}},
	{"a", []int{42, 52}},
	{"_", []int{42, 52}},
	{"0", []int{42, 52}},
	{"-", []int{74, 84}},
	{" ", []int{74, 84}},
	{"\n", []int{90, 92}},
	{"\n\n", []int{90, 88, 92}},
	{"\n\n\n", []int{90, 88, 88, 92}},
	{"\r\n", []int{74, 80, 92}},
	{"\n\r", []int{90, 72, 84}},
	{"\x00", []int{74, 84}},
	{"\xFF", []int{74, 84}},
	{"\x8A", []int{74, 84}}, // a line feed, were it not for the highest bit
	{"\xE1", []int{74, 84}}, // an a, were it not for the highest bit
	{"\xC3\xA9", []int{74, 64, 84}},
	{"a\xC3\xA9b", []int{42, 32, 64, 32, 52}},
	{"a b", []int{42, 32, 32, 52}},
	{" a ", []int{74, 32, 32, 84}},
	{"a\n", []int{42, 48, 92}},
	{"\na", []int{90, 40, 52}},
	{"a\nb", []int{42, 48, 40, 52}},
	{"-\n-", []int{74, 80, 72, 84}},
	{"a\n\nb", []int{42, 48, 88, 40, 52}},
	{"a_9Z", []int{42, 64, 64, 64, 52}},
	{"--", []int{74, 64, 84}},
	{"x-1, y", []int{42, 32, 32, 32, 64, 32, 52}},
	{"@A[`a{/0:^_`", []int{74, 32, 32, 64, 32, 32, 64, 32, 32, 64, 32, 32, 84}},
}

func TestAt(t *testing.T) {
	for _, x := range written {
		if got := everywhere(x.text); !slices.Equal(got, x.want) {
			t.Errorf("at the offsets of %q: %v, want %v", x.text, got, x.want)
		}
		if want := at(x.text); !slices.Equal(x.want, want) {
			t.Errorf("the model at the offsets of %q: %v, want %v", x.text, want, x.want)
		}
	}
}

// The example of the document.
func TestExample(t *testing.T) {
	if got := edge.At("ab", 0); got != 2+8+32 {
		t.Error(got)
	}
	for k, want := range map[int]bool{api.ABegin: true, api.AEnd: false, api.ALine: true, api.ALineEnd: false, api.AWord: true, api.ANoWord: false} {
		if edge.Holds(k, "ab", 0) != want {
			t.Error(k, !want)
		}
	}
}

func TestAtMatchesTheModel(t *testing.T) {
	for _, text := range samples() {
		if got, want := everywhere(text), at(text); !slices.Equal(got, want) {
			t.Errorf("at the offsets of %q: %v, want %v", text, got, want)
		}
	}
}

// Every pair of bytes as a text.
func TestAtPairsOfBytes(t *testing.T) {
	for x := range 256 {
		for y := range 256 {
			text := string([]byte{byte(x), byte(y)})
			if got, want := everywhere(text), []int{between(-1, x), between(x, y), between(y, -1)}; !slices.Equal(got, want) {
				t.Errorf("at the offsets of %q: %v, want %v", text, got, want)
			}
		}
	}
}

// An offset that is not in the text: nothing holds there.
func TestAtOutside(t *testing.T) {
	for _, text := range samples() {
		for _, i := range outside(len(text)) {
			if got := edge.At(text, i); got != 0 {
				t.Errorf("At(%q, %d) = %d", text, i, got)
			}
		}
	}
	for _, text := range []string{"", "a", "\n", " ", "ab\ncd"} {
		for i := -1000; i <= 1000; i++ {
			if got := edge.At(text, i); got == 0 == (0 <= i && i <= len(text)) {
				t.Errorf("At(%q, %d) = %d", text, i, got)
			}
		}
	}
}

// Only the two bytes next to an offset matter; a text is no longer than its length, whatever follows it in memory.
func TestAtOfPartsOfTexts(t *testing.T) {
	text := "ab \n\ncd_-\xFFx\n"
	for from := range len(text) + 1 {
		for to := from; to <= len(text); to++ {
			part := text[from:to]
			if got, want := everywhere(part), everywhere(strings.Clone(part)); !slices.Equal(got, want) {
				t.Errorf("%q: %v, %v", part, got, want)
			}
			for i := from + 1; i < to; i++ {
				if edge.At(part, i-from) != edge.At(text, i) {
					t.Errorf("%q, %d of %q", part, i-from, text)
				}
			}
			if edge.At(part, -1) != 0 || edge.At(part, len(part)+1) != 0 {
				t.Errorf("beyond %q of %q", part, text)
			}
		}
	}
}

// Texts longer than those that a search takes are texts all the same.
func TestLongTexts(t *testing.T) {
	for _, length := range []int{api.MaxText - 1, api.MaxText, api.MaxText + 1, 3 * api.MaxText} {
		text := strings.Repeat("a", length-3) + " \na"
		for i, want := range map[int]int{0: 42, 1: 64, length / 2: 64, length - 3: 32, length - 2: 80, length - 1: 40, length: 52, length + 1: 0, -1: 0} {
			if got := edge.At(text, i); got != want {
				t.Error(length, i, got, want)
			}
			for k := range 6 {
				if edge.Holds(k+1, text, i) != (want>>(k+1)&1 == 1) {
					t.Error(length, i, k+1)
				}
			}
		}
	}
}

// Each assertion where it holds and where it does not.
func TestHolds(t *testing.T) {
	for _, x := range []struct {
		kind int
		text string
		want []bool
	}{
		{api.ABegin, "", []bool{true}},
		{api.ABegin, "a\nb", []bool{true, false, false, false}},
		{api.ABegin, "\n", []bool{true, false}},
		{api.AEnd, "", []bool{true}},
		{api.AEnd, "a\nb", []bool{false, false, false, true}},
		{api.AEnd, "a\n", []bool{false, false, true}},
		{api.ALine, "", []bool{true}},
		{api.ALine, "a\nb", []bool{true, false, true, false}},
		{api.ALine, "a\n", []bool{true, false, true}},
		{api.ALine, "\r\n\r", []bool{true, false, true, false}},
		{api.ALineEnd, "", []bool{true}},
		{api.ALineEnd, "a\nb", []bool{false, true, false, true}},
		{api.ALineEnd, "\na", []bool{true, false, true}},
		{api.ALineEnd, "\r\n\r", []bool{false, true, false, true}},
		{api.AWord, "", []bool{false}},
		{api.AWord, "a_ -9", []bool{true, false, true, false, true, true}},
		{api.AWord, "\n\xE9\n", []bool{false, false, false, false}},
		{api.ANoWord, "", []bool{true}},
		{api.ANoWord, "a_ -9", []bool{false, true, false, true, false, false}},
		{api.ANoWord, "\n\xE9\n", []bool{true, true, true, true}},
	} {
		for i, want := range x.want {
			if edge.Holds(x.kind, x.text, i) != want {
				t.Errorf("Holds(%d, %q, %d) = %t", x.kind, x.text, i, !want)
			}
		}
	}
}

func TestHoldsMatchesTheModel(t *testing.T) {
	for _, text := range samples() {
		for i, bits := range at(text) {
			for k := 1; k <= 6; k++ {
				if want := bits/(1<<k)%2 == 1; edge.Holds(k, text, i) != want {
					t.Errorf("Holds(%d, %q, %d) = %t", k, text, i, !want)
				}
			}
		}
		for _, i := range outside(len(text)) {
			for k := 1; k <= 6; k++ {
				if edge.Holds(k, text, i) {
					t.Errorf("Holds(%d, %q, %d)", k, text, i)
				}
			}
		}
	}
}

// What is no assertion holds nowhere.
func TestHoldsOfNoAssertions(t *testing.T) {
	for _, k := range noKinds() {
		for _, text := range []string{"", "a", "\n", "a b", "\n\n", "--"} {
			for i := range len(text) + 1 {
				if edge.Holds(k, text, i) {
					t.Errorf("Holds(%d, %q, %d)", k, text, i)
				}
			}
			for _, i := range outside(len(text)) {
				if edge.Holds(k, text, i) {
					t.Errorf("Holds(%d, %q, %d)", k, text, i)
				}
			}
		}
	}
}
