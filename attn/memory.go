package attn

import (
	"slices"

	"garboard/api"
)

// Memory has the keys and values of places. It is never turned, so that others may share its lists.
type Memory struct {
	layers []places
}

// places are the keys and the values of a layer, as many of the one as of the other.
type places struct {
	keys, values [][]int64
}

// New is a memory of no places.
func New(layers int) *Memory {
	return &Memory{layers: make([]places, max(0, min(layers, api.MaxLayers)))}
}

// Len is how many places it has.
func (c *Memory) Len() int {
	// Each layer has as many; without one there is nothing that a place could have.
	if c.Layers() == 0 {
		return 0
	}
	return len(c.layers[0].keys)
}

// Layers is how many layers it has.
func (c *Memory) Layers() int { return len(c.all()) }

// Cut is one of the first places.
func (c *Memory) Cut(n int) *Memory {
	n = max(0, min(n, c.Len()))
	cut := New(c.Layers())
	for layer, p := range c.all() {
		cut.layers[layer] = p.first(n)
	}
	return cut
}

// Same tells whether two have the same.
func (c *Memory) Same(d *Memory) bool {
	return slices.EqualFunc(c.all(), d.all(), places.same)
}

// all are its layers: none of a nil memory.
func (c *Memory) all() []places {
	if c == nil {
		return nil
	}
	return c.layers
}

// with is one with a place behind.
func (p places) with(key, value []int64) places {
	return places{keys: behind(p.keys, key), values: behind(p.values, value)}
}

// first is one of the first n places; there are so many.
func (p places) first(n int) places {
	return places{keys: p.keys[:n:n], values: p.values[:n:n]}
}

// same tells whether two have the same keys and values.
func (p places) same(q places) bool {
	return sameRows(p.keys, q.keys) && sameRows(p.values, q.values)
}

// sameRows tells whether two lists have the same vectors.
func sameRows(a, b [][]int64) bool { return slices.EqualFunc(a, b, slices.Equal[[]int64]) }

// behind is a list with a vector behind it.
func behind(list [][]int64, v []int64) [][]int64 {
	// Cut to its length, so that the vector is never laid into room that another list has, too.
	return append(list[:len(list):len(list)], v)
}
