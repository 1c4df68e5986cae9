package sem

// marks are the tasks and offsets to which threads have come: a bit for each of 64 offsets.
type marks map[block]uint64

// block is a task and 64 offsets, for threads that have moved or for those that have not.
type block struct {
	task, offsets int
	moved         bool
}

// add adds the task and the offset of t, and whether it has moved. It reports whether they are new.
func (m marks) add(t thread) bool {
	b := block{t.task, t.at / 64, t.moved}
	old, bit := m[b], uint64(1)<<(t.at%64)
	m[b] = old | bit
	return old&bit == 0
}
