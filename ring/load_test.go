package ring

import (
	"math"
	"testing"

	"garboard/api"
	"garboard/rand"
)

// wantBound tells where the bound is another one.
func (p pair) wantBound(t *testing.T, want int, loads map[uint64]int, factor int) {
	t.Helper()
	if got := p.ring.Bound(loads, factor); got != want {
		t.Errorf("nodes %v: Bound(%v, %d) is %d, want %d", p.book.nodes, loads, factor, got, want)
	}
	p.checkLoads(t, loads, factor)
}

// lowFactors count as 100, highFactors as 10000.
var (
	lowFactors  = []int{math.MinInt, -1 << 32, -100, -1, 0, 1, 99, 100}
	highFactors = []int{10000, 10001, 1 << 31, 1 << 32, 1<<32 + 1, math.MaxInt}
)

// TestBoundFactors (P16.2): a factor below 100 is 100, above 10000 it is 10000; what lies between goes upward.
func TestBoundFactors(t *testing.T) {
	p := newPair(t, 1, 2, 4, 5, 6)
	loads := map[uint64]int{4: 1, 5: 2, 6: 3}
	for _, factor := range lowFactors {
		p.wantBound(t, 3, loads, factor)
	}
	for _, factor := range highFactors {
		p.wantBound(t, 234, loads, factor)
	}
	// Of one node with the load 9999 it is as many as 100 times the factor.
	one, much := newPair(t, 1, 2, 4), map[uint64]int{4: 9999}
	for _, factor := range lowFactors {
		one.wantBound(t, 10000, much, factor)
	}
	for _, factor := range highFactors {
		one.wantBound(t, 1000000, much, factor)
	}
	for _, factor := range []int{101, 102, 5000, 9998, 9999} {
		one.wantBound(t, 100*factor, much, factor)
	}
	for factor, want := range map[int]int{101: 3, 128: 3, 129: 4, 150: 4, 171: 4, 172: 5, 299: 7, 300: 7, 301: 8, 9000: 210, 9001: 211, 9999: 234} {
		p.wantBound(t, want, loads, factor)
	}
}

// TestBoundLoads (P16.2): a load below 0 counts as 0, above 2^20 as that; what is not told is 0, what is told of no node does not count.
func TestBoundLoads(t *testing.T) {
	p := newPair(t, 1, 2, 7)
	for load, want := range map[int]int{math.MinInt: 1, -1 << 32: 1, -1: 1, 0: 1, 1: 2, 9: 10, 1<<20 - 1: 1 << 20, 1 << 20: 1<<20 + 1, 1<<20 + 1: 1<<20 + 1, 1 << 32: 1<<20 + 1, math.MaxInt: 1<<20 + 1} {
		p.wantBound(t, want, map[uint64]int{7: load}, 100)
		p.wantBound(t, want, map[uint64]int{7: load, 6: 50, 8: -50, 0: math.MaxInt}, 100)
		p.wantBound(t, 100*want, map[uint64]int{7: load}, 10000)
	}
	for _, loads := range []map[uint64]int{nil, {}, {0: 99}} {
		p.wantBound(t, 1, loads, 100)
	}
	p.add(t, 0, api.OK)
	p.wantBound(t, 1, nil, 100)
	p.wantBound(t, 1, map[uint64]int{7: 1}, 100)
	p.wantBound(t, 2, map[uint64]int{7: 2}, 100)
	p.wantBound(t, 3, map[uint64]int{7: 5, 0: -2}, 50)
}

// TestBoundBelow0 (P16.2): a load below 0 takes nothing off the others.
func TestBoundBelow0(t *testing.T) {
	p := newPair(t, 1, 2, 1, 2)
	p.wantBound(t, 6, map[uint64]int{1: 10, 2: -9}, 100)
	p.wantBound(t, 1<<19+1, map[uint64]int{1: math.MaxInt, 2: math.MinInt}, 100)
	p.wantBound(t, 1<<20+1, map[uint64]int{1: math.MaxInt, 2: math.MaxInt}, 100)
}

// TestBoundOfTheMost (P16.2): of as many nodes as there may be, with as much load, and of each number of nodes.
func TestBoundOfTheMost(t *testing.T) {
	p, loads := newPair(t, 1, 1), map[uint64]int{}
	p.wantBound(t, 0, nil, 100)
	p.wantBound(t, 0, map[uint64]int{0: 5}, 10000)
	for n := range uint64(64) {
		p.add(t, n, api.OK)
		loads[n] = math.MaxInt
		for _, factor := range []int{100, 101, 125, 9999, 10000} {
			p.checkLoads(t, loads, factor)
			p.checkLoads(t, nil, factor)
		}
	}
	p.wantBound(t, 104857602, loads, 10000)
	p.wantBound(t, 1<<20+1, loads, 100)
	p.wantBound(t, 2, nil, 10000)
	p.wantBound(t, 1, nil, 6400)
	p.wantBound(t, 2, nil, 6401)
}

// TestPickNone (P16.2): without nodes nothing is picked, whatever is told.
func TestPickNone(t *testing.T) {
	for _, each := range []int{1, 64} {
		p := newPair(t, 2, each)
		for round := range 2 {
			for _, key := range someKeys() {
				for _, loads := range []map[uint64]int{nil, {}, {0: 0}, {0: -1, 5: 3}} {
					if node, err := p.ring.Pick(key, loads, 100); node != 0 || err != api.ErrNone {
						t.Fatalf("round %d: Pick of no nodes: %d, %v", round, node, err)
					}
				}
			}
			p.add(t, 5, api.OK)
			p.drop(t, 5, api.OK)
		}
	}
}

// wantPick tells where another node is picked.
func (p pair) wantPick(t *testing.T, want, key uint64, loads map[uint64]int, factor int) {
	t.Helper()
	if got, err := p.ring.Pick(key, loads, factor); got != want || err != api.OK {
		t.Fatalf("nodes %v: Pick(%d, %v, %d): %d, %v, want %d", p.book.nodes, key, loads, factor, got, err, want)
	}
	p.checkLoads(t, loads, factor, key)
}

// TestPickWithoutLoads (P16.2): with no loads told, with none but of others, and with loads below 0, the first node of the order is picked.
func TestPickWithoutLoads(t *testing.T) {
	for _, count := range []int{1, 2, 3, 10, 64} {
		p := newPair(t, 3, 4, someNodes(1, count)...)
		below, zeros := map[uint64]int{}, map[uint64]int{}
		for n, node := range p.book.nodes {
			below[node] = []int{-1, -7, math.MinInt}[n%3]
			zeros[node] = 0
		}
		for _, key := range someKeys() {
			for _, loads := range []map[uint64]int{nil, {}, {1 << 31: 900}, below, zeros} {
				for _, factor := range []int{math.MinInt, 99, 100, 125, 10000, math.MaxInt} {
					p.wantPick(t, p.book.order(key)[0], key, loads, factor)
				}
			}
		}
	}
}

// TestPickAtTheBound (P16.2): the first node of the order is picked as its load is one below the bound, and is left as it is at the bound, or above it.
func TestPickAtTheBound(t *testing.T) {
	p := newPair(t, 3, 4, 1, 2, 3, 4)
	for _, key := range someKeys() {
		order := p.book.order(key)
		first, last := order[0], order[3]
		// With 12 as all loads the bound by 100 is 13 by 4, upward: 4. By 200 it is 7.
		for _, c := range []struct{ load, factor, place int }{{3, 100, 0}, {4, 100, 1}, {5, 100, 1}, {3, 99, 0}, {4, 99, 1}, {6, 200, 0}, {7, 200, 1}, {8, 200, 1}, {4, 123, 1}, {4, 124, 0}, {12, 400, 0}, {12, 369, 1}, {12, 370, 0}} {
			p.wantPick(t, order[c.place], key, map[uint64]int{first: c.load, last: 12 - c.load}, c.factor)
		}
	}
}

// TestPickTheOneBelow (P16.2): with all nodes but one at the bound, or above it, that one is picked, wherever it stands.
func TestPickTheOneBelow(t *testing.T) {
	for _, count := range []int{2, 3, 5, 64} {
		p := newPair(t, 4, 3, someNodes(2, count)...)
		for _, key := range someKeys()[:8] {
			for _, only := range p.book.order(key) {
				at, above := map[uint64]int{}, map[uint64]int{}
				for n, node := range p.book.nodes {
					at[node], above[node] = 6, 6+n
				}
				// At 6, and one at 5: as many by so many, upward, are 6.
				at[only], above[only] = 5, 0
				p.wantBound(t, 6, at, 100)
				p.wantPick(t, only, key, at, 100)
				p.checkLoads(t, above, 100, key)
			}
		}
	}
}

// TestPickGreatLoads (P16.2): a load above 2^20 counts as that as it is held against the bound, too: there is always a node.
func TestPickGreatLoads(t *testing.T) {
	for _, count := range []int{1, 2, 64} {
		p := newPair(t, 5, 3, someNodes(3, count)...)
		for _, load := range []int{1<<20 - 1, 1 << 20, 1<<20 + 1, 1 << 30, math.MaxInt} {
			loads := map[uint64]int{}
			for _, node := range p.book.nodes {
				loads[node] = load
			}
			for _, key := range someKeys() {
				p.wantPick(t, p.book.order(key)[0], key, loads, 100)
			}
		}
	}
	p := newPair(t, 5, 3, 1, 2)
	for _, key := range someKeys() {
		order := p.book.order(key)
		for _, load := range []int{1 << 20, 1<<20 + 1, 1 << 21, math.MaxInt} {
			// By 200 the bound is 2^20 and 1, by 199 it is less.
			p.wantPick(t, order[0], key, map[uint64]int{order[0]: load}, 200)
			p.wantPick(t, order[1], key, map[uint64]int{order[0]: load}, 199)
		}
	}
}

// drawnLoad is a load of any kind: a small one, one about 2^20, one below 0, or any number.
func drawnLoad(s *rand.Source) int {
	n := s.Next()
	switch n % 8 {
	case 0:
		return int(s.Next())
	case 1:
		return 1<<20 - 3 + int(s.Next()%6)
	case 2:
		return -int(s.Next() % 5)
	case 3:
		return int(s.Next() % (1 << 20))
	}
	return int(s.Next() % 9)
}

// drawnLoads are loads of most of some nodes, and of some numbers that are none.
func drawnLoads(s *rand.Source, nodes []uint64) map[uint64]int {
	loads := map[uint64]int{}
	for _, node := range nodes {
		if s.Next()%6 > 0 {
			loads[node] = drawnLoad(s)
		}
		if s.Next()%6 == 0 {
			loads[s.Next()] = drawnLoad(s)
		}
	}
	return loads
}

// drawnFactor is a factor of any kind.
func drawnFactor(s *rand.Source) int {
	switch s.Next() % 5 {
	case 0:
		return int(s.Next())
	case 1:
		return 98 + int(s.Next()%5)
	case 2:
		return 9998 + int(s.Next()%5)
	}
	return 100 + int(s.Next()%400)
}

// TestAlwaysOneBelow (P16.4): of drawn loads and factors there is a node whose load is below the bound, and one such is picked.
func TestAlwaysOneBelow(t *testing.T) {
	for count := 1; count <= 64; count += 1 + count/6 {
		p := newPair(t, uint64(count), 2, someNodes(4, count)...)
		s := rand.New(rand.Derive(4, uint64(count)))
		for range 200 {
			loads, factor := drawnLoads(s, p.book.nodes), drawnFactor(s)
			bound, below := int64(p.ring.Bound(loads, factor)), 0
			for _, node := range p.book.nodes {
				if load(loads[node]) < bound {
					below++
				}
			}
			if below == 0 {
				t.Fatalf("%d nodes: no load of %v is below %d", count, loads, bound)
			}
			key := s.Next()
			if node, err := p.ring.Pick(key, loads, factor); err != api.OK || load(loads[node]) >= bound {
				t.Fatalf("%d nodes, bound %d: Pick(%d, %v, %d): %d, %v", count, bound, key, loads, factor, node, err)
			}
			p.checkLoads(t, loads, factor, key)
		}
	}
}
