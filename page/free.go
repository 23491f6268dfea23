package page

import "container/heap"

// freePages are a heap of their numbers, with the least one first, as that is the one to be taken next.
type freePages []int

// first are the pages from 0 on, so many. As they rise they are a heap already.
func first(count int) freePages {
	all := make(freePages, count)
	for n := range all {
		all[n] = n
	}
	return all
}

func (h freePages) Len() int           { return len(h) }
func (h freePages) Less(i, j int) bool { return h[i] < h[j] }
func (h freePages) Swap(i, j int)      { h[i], h[j] = h[j], h[i] }

// Push is container/heap's: it adds one behind the others.
func (h *freePages) Push(x any) { *h = append(*h, x.(int)) }

// Pop is container/heap's: it takes the last one.
func (h *freePages) Pop() any {
	last := len(*h) - 1
	n := (*h)[last]
	*h = (*h)[:last]
	return n
}

// next takes the least one out; there is one.
func (h *freePages) next() int { return heap.Pop(h).(int) }
