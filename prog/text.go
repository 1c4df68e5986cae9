package prog

import (
	"strconv"
	"strings"

	"burin/api"
)

// title is the word of the first line of a text.
const title = "program"

// Show returns the text of p, or ErrProg if p is not well formed.
func Show(p api.Prog) (string, api.Code) {
	if e := Check(p); e != api.OK {
		return "", e
	}
	out := appendLine(nil, title, p.Start, p.Slots)
	for _, x := range p.Insts {
		out = appendLine(out, operations[x.Op].word, own(x)...)
	}
	return string(out), api.OK
}

// appendLine adds a line of a word and numbers to a text.
func appendLine(text []byte, word string, numbers ...int) []byte {
	text = append(text, word...)
	for _, n := range numbers {
		text = append(text, ' ')
		text = strconv.AppendInt(text, int64(n), 10)
	}
	return append(text, '\n')
}

// own returns the fields that x has.
func own(x api.Inst) []int {
	var out []int
	for i, n := range values(x) {
		if operations[x.Op].has(i) {
			out = append(out, n)
		}
	}
	return out
}

// Read returns the program whose text is s, or ErrProg if s is the text of none.
//
// Every s leads to a guess, which is right exactly if its text is s. So no fault of s needs a check of its own.
func Read(s string) (api.Prog, api.Code) {
	p := guess(s)
	if text, e := Show(p); e != api.OK || text != s {
		return api.Prog{}, api.ErrProg
	}
	return p, api.OK
}

// guess returns the program whose text is s. If s is the text of none, the result is any program, well formed or not.
func guess(s string) api.Prog {
	head, lines, _ := strings.Cut(s, "\n")
	_, items, _ := strings.Cut(head, " ")
	start, items := number(items)
	slots, _ := number(items)
	p := api.Prog{Start: start, Slots: slots}
	for line := range strings.Lines(lines) {
		p.Insts = append(p.Insts, instruction(strings.TrimSuffix(line, "\n")))
		if len(p.Insts) > api.MaxProg {
			break // however long s is
		}
	}
	return p
}

// number returns the number at the front of items, and the items behind it. Where another item stands there, or none, the
// result is any number, since the text of the guess has a number there.
func number(items string) (int, string) {
	item, rest, _ := strings.Cut(items, " ")
	n, _ := strconv.Atoi(item)
	return n, rest
}

// instruction returns the instruction of a line.
func instruction(line string) api.Inst {
	word, items, _ := strings.Cut(line, " ")
	op := opOf(word)
	var v [fields]int
	for i := range v {
		if operations[op].has(i) {
			v[i], items = number(items)
		}
	}
	return api.Inst{Op: op, Lo: v[lo], Hi: v[hi], X: v[first], Y: v[second]}
}

// opOf returns the Op that has the word, or 0 if there is none.
func opOf(word string) int {
	for op, o := range operations {
		if o.word == word {
			return op
		}
	}
	return 0
}
