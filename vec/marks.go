package vec

import "container/heap"

// mark is a number and the place at which it stands.
type mark struct {
	at int
	n  int64
}

// below tells whether another mark is ahead of this one among the greatest: of like ones the first one is.
func (m mark) below(other mark) bool {
	if m.n != other.n {
		return m.n < other.n
	}
	return m.at > other.at
}

// marks are a heap, with the least one first, as that is the one to give way to a greater one.
type marks []mark

func (h marks) Len() int           { return len(h) }
func (h marks) Less(i, j int) bool { return h[i].below(h[j]) }
func (h marks) Swap(i, j int)      { h[i], h[j] = h[j], h[i] }

// Push is container/heap's: it adds one behind the others.
func (h *marks) Push(x any) { *h = append(*h, x.(mark)) }

// Pop is container/heap's: it takes the last one.
func (h *marks) Pop() any {
	last := len(*h) - 1
	m := (*h)[last]
	*h = (*h)[:last]
	return m
}

// next takes the least one out; there is one.
func (h *marks) next() mark { return heap.Pop(h).(mark) }
