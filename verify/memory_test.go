package verify_test

import (
	"math"
	"reflect"
	"slices"
	"testing"

	"burin/api"
	"burin/verify"
)

// behind are instructions that lie behind those of a program, in their spare capacity.
var behind = []inst{{Op: -9, Lo: 1, Hi: 2, X: 3, Y: 4}, split(0, 0)}

// room returns a copy of p in new memory, with more instructions behind those of p.
func room(p code) code {
	p.Insts = append(append(make([]inst, 0, len(p.Insts)+len(behind)), p.Insts...), behind...)[:len(p.Insts)]
	return p
}

// isRoom reports whether x is what room makes of p, also behind the instructions.
func isRoom(x, p code) bool {
	all := x.Insts[:cap(x.Insts)]
	return equal(x, p) && len(all) >= len(x.Insts)+2 && slices.Equal(all[len(x.Insts):][:2], behind)
}

// overwrite writes to all the memory of l.
func overwrite[T any](l []T, x T) {
	all := l[:cap(l)]
	for i := range all {
		all[i] = x
	}
}

// samples are programs that can be run, and some that cannot.
func samples() []code {
	out := []code{{}, of(0, 2), of(0, 65, match()), of(1, 2, match()), of(0, 3, match()), of(0, 2, slot(2, 1), match()), of(0, 2, split(0, 0))}
	for _, x := range written {
		out = append(out, x.p)
	}
	r := random(5)
	for range 200 {
		out = append(out, anyProg(r, 20))
	}
	return append(out, of(1, 2, made(maxProg, func(i int) inst { return next(i) })...))
}

// answer is all that is returned for a program.
type answer struct {
	check, made       api.Code
	p                 code
	len, start, slots int
	insts             []inst
	order, reached    []int
}

func everything(p code) answer {
	c, e := verify.New(p)
	x := answer{check: verify.Check(p), made: e}
	if c != nil {
		x.ask(c)
	}
	return x
}

// ask calls all methods of c.
func (x *answer) ask(c *verify.Checked) {
	x.p, x.len, x.start, x.slots, x.order, x.reached = c.Prog(), c.Len(), c.Start(), c.Slots(), c.Order(), c.Reached()
	for i := range c.Len() {
		x.insts = append(x.insts, c.Inst(i))
	}
}

func TestProgramsAreNotChanged(t *testing.T) {
	for _, p := range samples() {
		x := room(p)
		if !isRoom(x, p) {
			t.Fatalf("there is no room in %s", brief(p))
		}
		got := everything(x)
		if !isRoom(x, p) {
			t.Errorf("%s is changed", brief(p))
		}
		if want := everything(p); !reflect.DeepEqual(got, want) {
			t.Errorf("what lies behind the instructions of %s matters: %v, %v", brief(p), got, want)
		}
	}
}

// A checked program is the one that was checked, whatever becomes of the argument and of what was returned.
func TestCheckedProgramsDoNotChange(t *testing.T) {
	for _, p := range samples() {
		x := room(p)
		c, e := verify.New(x)
		if e != fine {
			continue
		}
		var want, got answer
		want.ask(c)
		overwrite(x.Insts, split(0, 0))
		got.ask(c)
		if !reflect.DeepEqual(got, want) || !equal(got.p, p) {
			t.Errorf("%s changes with the argument", brief(p))
		}
		overwrite(got.p.Insts, inst{Op: 99})
		overwrite(got.order, -7)
		overwrite(got.reached, -8)
		got = answer{}
		got.ask(c)
		if !reflect.DeepEqual(got, want) || !equal(got.p, p) {
			t.Errorf("%s changes with what was returned", brief(p))
		}
		other, _ := verify.New(p)
		got = answer{}
		got.ask(other)
		if !reflect.DeepEqual(got, want) {
			t.Errorf("another checked program of %s is not the same", brief(p))
		}
	}
}

// Results share no memory with one another, also in their spare capacity.
func TestResultsAreNewMemory(t *testing.T) {
	for _, p := range samples() {
		insts, numbers := map[*inst]bool{}, map[*int]bool{}
		isNew(insts, p.Insts)
		for range 2 {
			c, e := verify.New(p)
			if e != fine {
				continue
			}
			for range 2 {
				if !isNew(insts, c.Prog().Insts) || !isNew(numbers, c.Order()) || !isNew(numbers, c.Reached()) {
					t.Fatalf("two results of %s share memory", brief(p))
				}
			}
		}
	}
}

// Instructions that are not there are zero.
func TestInstOutside(t *testing.T) {
	for _, number := range []int{1, 2, 3, 64, maxProg} {
		c := accepted(t, of(0, 2, made(number, func(i int) inst { return bytes(1, 2, i) })...))
		for _, i := range []int{-1, -2, -64, math.MinInt, number, number + 1, 2 * number, maxProg, maxProg + 1, math.MaxInt} {
			if x := c.Inst(i); x != (inst{}) {
				t.Errorf("Inst(%d) of %d instructions is %v", i, number, x)
			}
		}
		for _, i := range []int{0, number / 2, number - 1} {
			if x := c.Inst(i); x != bytes(1, 2, i) {
				t.Errorf("Inst(%d) of %d instructions is %v", i, number, x)
			}
		}
	}
}

// Checked programs made one after another do not influence one another.
func TestManyCheckedPrograms(t *testing.T) {
	l := samples()
	var all []*verify.Checked
	var want []answer
	for _, p := range l {
		c, _ := verify.New(p)
		all, want = append(all, c), append(want, everything(p))
	}
	for i, c := range slices.Backward(all) {
		x := answer{check: want[i].check, made: want[i].made}
		if c != nil {
			x.ask(c)
		}
		if !reflect.DeepEqual(x, want[i]) {
			t.Errorf("%s changes with others", brief(l[i]))
		}
	}
}

// Many calls at the same time, also of one checked program, are as many calls one after another.
func TestCallsDoNotInfluenceOneAnother(t *testing.T) {
	l := samples()
	var all []*verify.Checked
	for _, p := range l {
		c, _ := verify.New(p)
		all = append(all, c)
	}
	results := func() []answer {
		var out []answer
		for i, p := range l {
			out = append(out, everything(p))
			var x answer
			if all[i] != nil {
				x.ask(all[i])
			}
			out = append(out, x)
		}
		return out
	}
	want := results()
	done := make(chan []answer)
	for range 8 {
		go func() { done <- results() }()
	}
	for range 8 {
		if !reflect.DeepEqual(<-done, want) {
			t.Error("the same calls at the same time return other results")
		}
	}
}
