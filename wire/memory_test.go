package wire_test

import (
	"reflect"
	"slices"
	"strings"
	"testing"

	"burin/api"
	"burin/prog"
	"burin/wire"
)

// behind are instructions that lie behind those of a program, in their spare capacity.
var behind = []inst{{Op: -9, Lo: 1, Hi: 2, X: 3, Y: 4}, match()}

// room returns a copy of p in new memory, with more instructions behind those of p.
func room(p code) code {
	p.Insts = append(append(make([]inst, 0, len(p.Insts)+len(behind)), p.Insts...), behind...)[:len(p.Insts)]
	return p
}

// isRoom reports whether x is what room makes of p, also behind the instructions.
func isRoom(x, p code) bool {
	all := x.Insts[:cap(x.Insts)]
	return equal(x, p) && len(all) >= len(x.Insts)+2 && slices.Equal(all[len(x.Insts):][:2], behind)
}

// overwrite writes to all the memory of p.
func overwrite(p code) {
	all := p.Insts[:cap(p.Insts)]
	for i := range all {
		all[i] = inst{Op: 99, Lo: -99, Hi: 98, X: -98, Y: 97}
	}
}

// samples are programs, well formed and not.
func samples() []code {
	out := append(wellFormed(), code{}, code{Insts: []inst{}}, of(0, 2), of(-1, 2, match()), of(0, 65, match()), of(0, 2, many(split(1, 2), maxProg+1)...))
	for _, x := range faults {
		out = append(out, of(0, 2, x), of(0, 2, match(), x), of(0, 2, x, fail()))
	}
	r := random(10)
	for range 200 {
		out = append(out, anyProg(r))
	}
	return out
}

// answer is what the functions return for a program and for its encoding, if it has one.
type answer struct {
	s      string
	encode api.Code
	back   code
	decode api.Code
	wrong  code
	none   api.Code
}

func everything(p code) answer {
	var x answer
	x.s, x.encode = wire.Encode(p)
	x.back, x.decode = wire.Decode(x.s)
	x.wrong, x.none = wire.Decode(x.s + "\x00")
	return x
}

func TestProgramsAreNotChanged(t *testing.T) {
	for _, p := range samples() {
		x := room(p)
		if !isRoom(x, p) {
			t.Fatalf("there is no room in %s", brief(p))
		}
		got := everything(x)
		if !isRoom(x, p) {
			t.Errorf("%s is changed", brief(p))
		}
		if want := everything(p); !reflect.DeepEqual(got, want) {
			t.Errorf("what lies behind the instructions of %s matters: %v, %v", brief(p), got, want)
		}
		if got.encode == api.OK && !prog.Same(got.back, p) {
			t.Errorf("%s is decoded as %s", brief(p), brief(got.back))
		}
	}
}

func TestResultsAreNewMemory(t *testing.T) {
	for _, p := range samples() {
		x := room(p)
		got, want := everything(x), everything(room(p))
		s := strings.Clone(got.s)
		overwrite(x)
		if got.s != s || !equal(got.back, want.back) {
			t.Errorf("what is returned for %s changes with it", brief(p))
		}
		overwrite(got.back)
		if again := everything(p); got.s != s || !reflect.DeepEqual(again, want) {
			t.Errorf("what is returned for %s changes with an earlier result", brief(p))
		}
	}
}

// Programs decoded from the same string share no memory, also in their spare capacity.
func TestDecodedProgramsShareNoMemory(t *testing.T) {
	for _, p := range samples() {
		s, _ := wire.Encode(p)
		places := map[*inst]bool{}
		for range 3 {
			back, _ := wire.Decode(s)
			all := back.Insts[:cap(back.Insts)]
			for i := range all {
				if places[&all[i]] {
					t.Fatalf("two programs of %s share memory", cut(s))
				}
				places[&all[i]] = true
			}
		}
	}
}

// The same instructions may be those of several programs.
func TestSharedInstructions(t *testing.T) {
	l := many(split(1, 2), 10)
	l[3] = fail()
	for _, p := range []code{{Insts: l, Slots: 2}, {Insts: l, Start: 1, Slots: 2}, {Insts: l[:9]}, {Insts: l[2:4]}} {
		inverted(t, p)
	}
}

// Many calls at the same time are as many calls one after another, in any order: nothing is kept from one to the next.
func TestCallsDoNotInfluenceOneAnother(t *testing.T) {
	l := samples()
	results := func(l []code) []answer {
		var out []answer
		for _, p := range l {
			out = append(out, everything(p))
		}
		return out
	}
	want := results(l)
	backward := slices.Clone(l)
	slices.Reverse(backward)
	got := results(backward)
	slices.Reverse(got)
	if !reflect.DeepEqual(got, want) {
		t.Error("the same calls in another order return other results")
	}
	done := make(chan []answer)
	for range 8 {
		go func() { done <- results(l) }()
	}
	for range 8 {
		if !reflect.DeepEqual(<-done, want) {
			t.Error("the same calls at the same time return other results")
		}
	}
}
