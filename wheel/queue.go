package wheel

import "container/heap"

// queued is a timer, and where it stands in the queue: one that is stopped is taken out from between the others at once, so that nothing is kept of it.
type queued struct {
	Timer
	place int
}

// queue is a heap of timers, with the one that is due first ahead, of those of one time the one with the least number.
type queue []*queued

func (q queue) Len() int { return len(q) }

func (q queue) Less(i, j int) bool {
	if q[i].At != q[j].At {
		return q[i].At < q[j].At
	}
	return q[i].N < q[j].N
}

// Swap is container/heap's: whoever is moved knows where it stands.
func (q queue) Swap(i, j int) {
	q[i], q[j] = q[j], q[i]
	q[i].place, q[j].place = i, j
}

// Push is container/heap's: it adds one behind the others.
func (q *queue) Push(x any) {
	one := x.(*queued)
	one.place = len(*q)
	*q = append(*q, one)
}

// Pop is container/heap's: it takes the last one.
func (q *queue) Pop() any {
	last := len(*q) - 1
	one := (*q)[last]
	// The list's end has room still, which would keep it.
	(*q)[last] = nil
	*q = (*q)[:last]
	return one
}

// add adds one.
func (q *queue) add(one *queued) { heap.Push(q, one) }

// next takes the first one out; there is one.
func (q *queue) next() Timer { return heap.Pop(q).(*queued).Timer }

// remove takes out one that stands there.
func (q *queue) remove(one *queued) { heap.Remove(q, one.place) }
