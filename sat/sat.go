// Package sat is layer 1: numbers that stay in their bounds: see shared/doc/01-sat.md.
package sat

import "math"

// Add is the sum, within the bounds of int64.
func Add(a, b int64) int64 {
	// The bound is moved by b, not the sum held against it, so that nothing goes round on the way.
	if b > 0 && a > math.MaxInt64-b {
		return math.MaxInt64
	}
	if b < 0 && a < math.MinInt64-b {
		return math.MinInt64
	}
	return a + b
}

// Sub is the difference, within the bounds of int64.
func Sub(a, b int64) int64 {
	// Not Add(a, -b): the least number has no opposite.
	if b < 0 && a > math.MaxInt64+b {
		return math.MaxInt64
	}
	if b > 0 && a < math.MinInt64+b {
		return math.MinInt64
	}
	return a - b
}

// Mul is the product, within the bounds of int64.
func Mul(a, b int64) int64 {
	if aboveMost(a, b) {
		return math.MaxInt64
	}
	if belowLeast(a, b) {
		return math.MinInt64
	}
	return a * b
}

// aboveMost tells whether the whole product is beyond the greatest number.
func aboveMost(a, b int64) bool {
	if a > 0 && b > 0 {
		return a > math.MaxInt64/b
	}
	if a < 0 && b < 0 {
		return a < math.MaxInt64/b
	}
	return false
}

// belowLeast tells whether the whole product is beyond the least number.
func belowLeast(a, b int64) bool {
	// The positive one divides: the least number by -1 would go round.
	if a > 0 && b < 0 {
		return b < math.MinInt64/a
	}
	if a < 0 && b > 0 {
		return a < math.MinInt64/b
	}
	return false
}

// Within is n within least and most, or least if most is below it.
func Within(n, least, most int64) int64 {
	if most < least || n < least {
		return least
	}
	if n > most {
		return most
	}
	return n
}

// Sum is what Add makes of the numbers, from 0 on, in their order; the order counts, as a bound may be met on the way.
func Sum(nums ...int64) int64 {
	var sum int64
	for _, n := range nums {
		sum = Add(sum, n)
	}
	return sum
}

// Counter is a counter with a greatest value; the zero one is at most 0.
type Counter struct {
	n    uint32 // never above most
	most uint32
}

// NewCounter is a counter of 0 that is at most most.
func NewCounter(most uint32) Counter { return Counter{most: most} }

// Up is a counter of n more, but at most its most.
func (c Counter) Up(n uint32) Counter {
	if n > c.most-c.n {
		n = c.most - c.n
	}
	return Counter{n: c.n + n, most: c.most}
}

// Down is a counter of n less, but at least 0.
func (c Counter) Down(n uint32) Counter {
	if n > c.n {
		n = c.n
	}
	return Counter{n: c.n - n, most: c.most}
}

// N is how much it is.
func (c Counter) N() uint32 { return c.n }

// Full tells whether it is its most.
func (c Counter) Full() bool { return c.n == c.most }
