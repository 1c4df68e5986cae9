package sem

import (
	"iter"
	"slices"

	"burin/api"
	"burin/edge"
	"burin/ranges"
	"burin/utf"
)

// task is what is still to be matched: what is left of a part, and then the next task. Each task has a number.
type task struct {
	part int
	left int // of a KCat, how many Subs; of a KGroup, 1 before its Sub and 0 behind it; of a KRepeat, the remaining count or behind
	next int
}

const (
	done   = 0  // the number of the task of which nothing is left
	behind = -2 // what is left of a KRepeat without a limit directly behind a round
)

// thread is a way of matching: the task and the offset to which it has come.
type thread struct {
	task, at int
	moved    bool // whether it consumed anything since the innermost round of a KRepeat without a limit began
	slots    *assigned
}

// on returns the thread t when it has come to a task and an offset.
func (t thread) on(task, at int) thread {
	t.moved = t.moved || at > t.at
	t.task, t.at = task, at
	return t
}

// origin is a part and the offset from which it is matched.
type origin struct{ part, at int }

// walk finds the matches of a core in a text.
type walk struct {
	text    string
	parts   []part
	tasks   []task
	numbers map[task]int
	stored  map[origin][]match // the matches of what repetitions repeat that are heavier than heaviest
}

// newWalk returns the walk of n, a core, in text.
func newWalk(n api.Node, text string) *walk {
	return &walk{text: text, parts: partsOf(n), tasks: []task{done: {}}, numbers: map[task]int{}, stored: map[origin][]match{}}
}

// number returns the number of a task, which is the same for equal tasks.
func (w *walk) number(k task) int {
	i, ok := w.numbers[k]
	if !ok {
		i = len(w.tasks)
		w.tasks = append(w.tasks, k)
		w.numbers[k] = i
	}
	return i
}

// begin returns the task of all of a part and then the next task.
func (w *walk) begin(part, next int) int {
	k := task{part, 0, next}
	switch p := &w.parts[part]; p.Kind {
	case api.KGroup:
		k.left = 1
	case api.KCat:
		k.left = len(p.below)
	case api.KRepeat:
		k.left = p.Max
	}
	return w.number(k)
}

// whole returns the task of the core.
func (w *walk) whole() int { return w.begin(0, done) }

// follow yields the matches of a task from the offset at, in order of priority, each end once: where nothing is left, a
// thread has moved exactly if its offset is not at. It does not go where a thread was seen, and adds what it sees.
func (w *walk) follow(first, at int, seen marks) iter.Seq[match] {
	return func(yield func(match) bool) {
		stack := []thread{{task: first, at: at}}
		for len(stack) > 0 {
			t := stack[len(stack)-1]
			stack = stack[:len(stack)-1]
			if !seen.add(t) {
				continue // Where it leads from there does not depend on how it came there: to ends that were found before.
			}
			if t.task != done {
				ways := w.ways(t)
				slices.Reverse(ways)
				stack = append(stack, ways...)
			} else if !yield(match{t.at, t.slots}) {
				return
			}
		}
	}
}

// ways returns the threads that t becomes by its task, in order of priority.
func (w *walk) ways(t thread) []thread {
	k := w.tasks[t.task]
	switch p := &w.parts[k.part]; p.Kind {
	case api.KEmpty:
		return []thread{t.on(k.next, t.at)}
	case api.KSet:
		if r, n := utf.Decode(w.text[t.at:]); ranges.Has(p.Set, r) {
			return []thread{t.on(k.next, t.at+n)}
		}
	case api.KByte:
		if t.at < len(w.text) {
			return []thread{t.on(k.next, t.at+1)}
		}
	case api.KAssert:
		if edge.Holds(p.Num, w.text, t.at) {
			return []thread{t.on(k.next, t.at)}
		}
	case api.KGroup:
		return []thread{w.group(t, k)}
	case api.KCat:
		return []thread{w.cat(t, k)}
	case api.KAlt:
		var out []thread
		for _, sub := range p.below {
			out = append(out, t.on(w.begin(sub, k.next), t.at))
		}
		return out
	case api.KRepeat:
		return w.repeat(t, k)
	}
	return nil
}

// group assigns a slot before or behind the Sub of a KGroup. So assignments come in the order in which programs make them
// (chapters 17 and 19), also where the Sub has a group of the same number.
func (w *walk) group(t thread, k task) thread {
	p := &w.parts[k.part]
	if k.left == 0 {
		t.slots = &assigned{2*p.Num + 1, t.at, t.slots}
		return t.on(k.next, t.at)
	}
	t.slots = &assigned{2 * p.Num, t.at, t.slots}
	return t.on(w.begin(p.below[0], w.number(task{k.part, 0, k.next})), t.at)
}

// cat goes on with the first Sub that is left of a KCat.
func (w *walk) cat(t thread, k task) thread {
	below := w.parts[k.part].below
	sub := below[len(below)-k.left]
	if k.left > 1 {
		k.next = w.number(task{k.part, k.left - 1, k.next})
	}
	return t.on(w.begin(sub, k.next), t.at)
}

// repeat goes on with a further round of a KRepeat, and without one.
func (w *walk) repeat(t thread, k task) []thread {
	if k.left == behind {
		if !t.moved {
			return nil
		}
		return []thread{t.on(w.begin(k.part, k.next), t.at)}
	}
	rounds, none := w.rounds(t, k), t.on(k.next, t.at)
	if w.parts[k.part].Lazy {
		return append([]thread{none}, rounds...)
	}
	return append(rounds, none)
}

// rounds returns the threads that t becomes by a further round of a KRepeat.
func (w *walk) rounds(t thread, k task) []thread {
	p := &w.parts[k.part]
	sub := p.below[0]
	left := w.useful(k.left, t.at)
	switch {
	case left == 0:
		return nil
	case left == -1:
		t.moved = false
		return []thread{t.on(w.begin(sub, w.number(task{k.part, behind, k.next})), t.at)}
	}
	rest := w.number(task{k.part, left - 1, k.next})
	if p.weight <= heaviest {
		return []thread{t.on(w.begin(sub, rest), t.at)}
	}
	var out []thread
	for _, m := range w.matches(origin{sub, t.at}) {
		way := t.on(rest, m.end)
		way.slots = t.slots.and(m.slots)
		out = append(out, way)
	}
	return out
}

// useful returns how many of the remaining rounds of a KRepeat make a difference from an offset: with more of them, the
// matches, their slots and their order are the same.
//
// To each end there is a way whose rounds all consume something, at most one for each byte that is left. One round more lets
// an empty round go before them. A further round could only be empty, too, and assign the same slots as that one.
func (w *walk) useful(left, at int) int { return min(left, len(w.text)-at+1) }

// matches returns the matches of a part from an offset, in order of priority. They are stored, since many rounds of a
// repetition ask for them.
func (w *walk) matches(o origin) []match {
	l, ok := w.stored[o]
	if !ok {
		for m := range w.follow(w.begin(o.part, done), o.at, marks{}) {
			m.slots = m.slots.brief()
			l = append(l, m)
		}
		w.stored[o] = l
	}
	return l
}
