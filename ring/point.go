package ring

import (
	"cmp"
	"slices"

	"garboard/rand"
)

// point is a place on the ring that is a node's.
type point struct {
	at   uint64
	node uint64
}

// compare tells which of two comes first upward: of those at one place that of the lesser node.
func (p point) compare(q point) int {
	return cmp.Or(cmp.Compare(p.at, q.at), cmp.Compare(p.node, q.node))
}

// lay adds a node's points.
func (r *Ring) lay(node uint64) {
	seed := rand.Derive(r.seed, node)
	for n := range r.each {
		r.points = append(r.points, point{at: rand.At(seed, uint64(n)), node: node})
	}
	slices.SortFunc(r.points, point.compare)
}

// lift takes a node's points away.
func (r *Ring) lift(node uint64) {
	r.points = slices.DeleteFunc(r.points, func(p point) bool { return p.node == node })
}

// stands is which point is the first one from where a key stands on, upward; behind the last one comes the first one again.
func (r *Ring) stands(key uint64) int {
	// No node is lesser than 0: no point at this place comes ahead of that.
	n, _ := slices.BinarySearchFunc(r.points, point{at: rand.At(r.seed, key)}, point.compare)
	return n
}
