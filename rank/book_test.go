package rank

import (
	"math"
	"slices"
	"testing"

	"garboard/sat"
)

// The greatest number of a replica, and what numbers and weights count as at most in a mark.
const (
	greatest = math.MaxUint64
	most     = 1048576
)

// book is what the chapter's words tell of a list and weights.
type book struct {
	list    []Candidate
	weights Weights
}

// near is a number of a candidate, or a weight, as it counts in a mark.
func near[N int | int64](n N) int64 {
	switch {
	case n < 0:
		return 0
	case n > most:
		return most
	}
	return int64(n)
}

// markOf is Mark: by the words, in their order.
func markOf(c Candidate, w Weights) int64 {
	bound := int64(0)
	if c.Bound {
		bound = near(w.Bound)
	}
	known := sat.Mul(near(c.Known), near(w.Known))
	load := sat.Mul(near(c.Load), near(w.Load))
	place := sat.Mul(near(c.Place), near(w.Place))
	return sat.Sub(sat.Sub(sat.Add(known, bound), load), place)
}

// ahead tells whether one comes ahead of another one that stands ahead of it in the list.
func ahead(a, b Candidate, w Weights) bool {
	if x, y := markOf(a, w), markOf(b, w); x != y {
		return x > y
	}
	if a.Place != b.Place {
		return a.Place < b.Place
	}
	return a.Replica < b.Replica
}

// sorted are all that may be asked, one picked behind the other.
func (b book) sorted() []Candidate {
	rest := slices.DeleteFunc(slices.Clone(b.list), func(c Candidate) bool { return !c.Open })
	var all []Candidate
	for len(rest) > 0 {
		next := 0
		for n := range rest {
			if ahead(rest[n], rest[next], b.weights) {
				next = n
			}
		}
		all = append(all, rest[next])
		rest = slices.Delete(rest, next, next+1)
	}
	return all
}

// order are those that Order tells of: of several of one number the first one of all that are sorted.
func (b book) order() []Candidate {
	var order []Candidate
	for _, c := range b.sorted() {
		if !slices.ContainsFunc(order, func(d Candidate) bool { return d.Replica == c.Replica }) {
			order = append(order, c)
		}
	}
	return order
}

// numbers is Order.
func (b book) numbers() []uint64 {
	var numbers []uint64
	for _, c := range b.order() {
		numbers = append(numbers, c.Replica)
	}
	return numbers
}

// best is Best.
func (b book) best(limit int) (uint64, bool) {
	order := b.order()
	for _, c := range order {
		if c.Load < limit {
			return c.Replica, true
		}
	}
	if len(order) > 0 {
		return order[0].Replica, true
	}
	return 0, false
}

// without is the book of those whose number is none of but.
func (b book) without(but ...uint64) book {
	var rest []Candidate
	for _, c := range b.list {
		if !slices.Contains(but, c.Replica) {
			rest = append(rest, c)
		}
	}
	return book{list: rest, weights: b.weights}
}

// limits are those at which loads of the list are just below one, or just not, and the least and the greatest number.
func (b book) limits() []int {
	limits := []int{math.MinInt, -1, 0, 1, most, most + 1, math.MaxInt}
	for _, c := range b.list {
		limits = append(limits, c.Load)
		if c.Load < math.MaxInt {
			limits = append(limits, c.Load+1)
		}
	}
	slices.Sort(limits)
	return slices.Compact(limits)
}

// buts are lists of numbers of the list, of ones that no candidate has, of some twice, and of all.
func (b book) buts() [][]uint64 {
	buts := [][]uint64{nil, {}, {0}, {greatest}, {4711, 4711}, {0, 4711, greatest, 0}}
	var all []uint64
	for _, c := range b.list {
		buts = append(buts, []uint64{c.Replica}, []uint64{c.Replica, 4711, c.Replica})
		all = append(all, c.Replica)
	}
	if len(all) > 1 {
		buts = append(buts, all[:len(all)/2], all[1:], all[:len(all)-1])
	}
	return append(buts, all, append(slices.Clone(all), all...), append([]uint64{4711}, all...))
}

// check tells where a call answers otherwise than the book.
func (b book) check(t *testing.T) {
	t.Helper()
	for _, c := range b.list {
		if got, want := Mark(c, b.weights), markOf(c, b.weights); got != want {
			t.Fatalf("Mark(%v, %v) is %d, want %d", c, b.weights, got, want)
		}
	}
	b.wantOrder(t, b.numbers()...)
	for _, limit := range b.limits() {
		want, ok := b.best(limit)
		b.wantBest(t, limit, want, ok)
	}
}

// checkSecond tells where Second answers otherwise than the book, at some limits.
func (b book) checkSecond(t *testing.T, limits ...int) {
	t.Helper()
	for _, but := range b.buts() {
		rest := b.without(but...)
		for _, limit := range limits {
			want, ok := rest.best(limit)
			b.wantSecond(t, limit, but, want, ok)
		}
	}
}

// wantOrder tells where the order is another one.
func (b book) wantOrder(t *testing.T, want ...uint64) {
	t.Helper()
	if got := Order(b.list, b.weights); !slices.Equal(got, want) {
		t.Fatalf("Order(%v, %v) is %v, want %v", b.list, b.weights, got, want)
	}
}

// wantBest tells where the best one is another one.
func (b book) wantBest(t *testing.T, limit int, want uint64, wantOK bool) {
	t.Helper()
	if got, ok := Best(b.list, b.weights, limit); got != want || ok != wantOK {
		t.Fatalf("Best(%v, %v, %d) is %d, %v, want %d, %v", b.list, b.weights, limit, got, ok, want, wantOK)
	}
}

// wantSecond tells where the best one but some is another one.
func (b book) wantSecond(t *testing.T, limit int, but []uint64, want uint64, wantOK bool) {
	t.Helper()
	if got, ok := Second(b.list, b.weights, limit, but...); got != want || ok != wantOK {
		t.Fatalf("Second(%v, %v, %d, %v) is %d, %v, want %d, %v", b.list, b.weights, limit, but, got, ok, want, wantOK)
	}
}
