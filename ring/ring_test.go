package ring

import (
	"math"
	"slices"
	"testing"

	"garboard/api"
	"garboard/rand"
)

// TestExample: the chapter's.
func TestExample(t *testing.T) {
	for _, node := range []uint64{0, 1, 77, math.MaxUint64} {
		for _, each := range []int{1, 2, 64} {
			p := newPair(t, 3, each, node)
			for _, key := range someKeys() {
				if order := p.ring.Order(key); !slices.Equal(order, []uint64{node}) {
					t.Errorf("Order(%d) of the node %d alone: %v", key, node, order)
				}
				if got, err := p.ring.Pick(key, map[uint64]int{node: 5}, 100); got != node || err != api.OK {
					t.Errorf("Pick(%d) of the node %d alone: %d, %v", key, node, got, err)
				}
			}
		}
	}
}

// TestNew (P16.1): as many points as there may be, and no nodes.
func TestNew(t *testing.T) {
	for _, seed := range []uint64{0, 1, math.MaxUint64} {
		for _, each := range []int{math.MinInt, -1 << 32, -1<<32 + 1, -64, -2, -1, 0, 65, 66, 128, 256, 257, 1 << 32, 1<<32 + 1, math.MaxInt} {
			if r, err := New(seed, each); r != nil || err != api.ErrArg {
				t.Errorf("New(%d, %d): %v", seed, each, err)
			}
		}
		for each := 1; each <= 64; each++ {
			p := newPair(t, seed, each)
			p.check(t, someKeys()...)
			p.checkLoads(t, nil, 100, someKeys()...)
			p.drop(t, 0, api.ErrNone)
			p.add(t, 0, api.OK)
			p.check(t, someKeys()...)
		}
	}
}

// TestOrders (P16.1): orders that were reckoned elsewhere.
func TestOrders(t *testing.T) {
	const last, half = math.MaxUint64, 1 << 63
	for _, c := range []struct {
		seed  uint64
		each  int
		nodes []uint64
		key   uint64
		want  []uint64
	}{
		{1, 4, []uint64{5, 6, 7}, 0, []uint64{7, 5, 6}},
		{1, 4, []uint64{5, 6, 7}, 1, []uint64{5, 7, 6}},
		{1, 4, []uint64{7, 6, 5}, 3, []uint64{6, 5, 7}},
		{0, 1, []uint64{0, 1, 2, 3, 4}, 0, []uint64{2, 4, 1, 3, 0}},
		{0, 1, []uint64{4, 3, 2, 1, 0}, 1, []uint64{0, 2, 4, 1, 3}},
		{0, 1, []uint64{0, 1, 2, 3, 4}, last, []uint64{4, 1, 3, 0, 2}},
		{last, 64, []uint64{last, 0, half, 12345}, 0, []uint64{0, 12345, half, last}},
		{last, 64, []uint64{last, 0, half, 12345}, 1, []uint64{last, half, 0, 12345}},
		{last, 64, []uint64{12345, half, 0, last}, 2, []uint64{half, 0, 12345, last}},
	} {
		p := newPair(t, c.seed, c.each, c.nodes...)
		if got := p.ring.Order(c.key); !slices.Equal(got, c.want) {
			t.Errorf("seed %d, %d points, nodes %v: Order(%d) is %v, want %v", c.seed, c.each, c.nodes, c.key, got, c.want)
		}
		p.check(t, c.key)
	}
}

// TestAdd (P16.1): a node that is there is refused, also as the ring is full; so is the 65th; one that was dropped is taken.
func TestAdd(t *testing.T) {
	for _, each := range []int{1, 3, 64} {
		nodes := someNodes(5, 66)
		p := newPair(t, 5, each)
		for n, node := range nodes[:64] {
			p.add(t, node, api.OK)
			p.add(t, node, api.ErrThere)
			p.add(t, nodes[0], api.ErrThere)
			p.check(t, uint64(n))
		}
		for range 3 {
			p.add(t, nodes[64], api.ErrMany)
			p.add(t, nodes[65], api.ErrMany)
			p.add(t, nodes[63], api.ErrThere)
			p.check(t, 1, 2, 3)
		}
		p.drop(t, nodes[7], api.OK)
		p.add(t, nodes[64], api.OK)
		p.add(t, nodes[7], api.ErrMany)
		p.drop(t, nodes[64], api.OK)
		p.add(t, nodes[7], api.OK)
		p.add(t, nodes[7], api.ErrThere)
		p.check(t, someKeys()...)
	}
}

// TestDrop (P16.1): a node that is there goes, and no other; none that is not there does.
func TestDrop(t *testing.T) {
	for _, each := range []int{1, 2, 64} {
		nodes := someNodes(6, 9)
		p := newPair(t, 6, each)
		p.drop(t, nodes[0], api.ErrNone)
		for _, node := range nodes {
			p.add(t, node, api.OK)
		}
		p.drop(t, 1<<40, api.ErrNone)
		for _, node := range nodes {
			p.drop(t, node, api.OK)
			p.check(t, someKeys()...)
			p.drop(t, node, api.ErrNone)
			p.check(t, someKeys()...)
		}
		for _, node := range nodes {
			p.drop(t, node, api.ErrNone)
		}
		p.checkLoads(t, map[uint64]int{nodes[0]: 3}, 100, 0, 1)
		p.add(t, nodes[3], api.OK)
		p.check(t, someKeys()...)
	}
}

// permutations are all orders of some numbers.
func permutations(all []uint64) [][]uint64 {
	if len(all) == 0 {
		return [][]uint64{nil}
	}
	var orders [][]uint64
	for _, order := range permutations(all[1:]) {
		for at := range len(order) + 1 {
			orders = append(orders, slices.Insert(slices.Clone(order), at, all[0]))
		}
	}
	return orders
}

// TestNodes (P16.1): of none, one and many they are rising, whatever the order in which they came.
func TestNodes(t *testing.T) {
	rising := []uint64{0, 1, math.MaxInt64, 1 << 63, math.MaxUint64}
	for count := range len(rising) + 1 {
		for _, order := range permutations(rising[:count]) {
			p := newPair(t, 4, 2, order...)
			if got := p.ring.Nodes(); !slices.Equal(got, rising[:count]) {
				t.Fatalf("Nodes of %v: %v", order, got)
			}
		}
	}
	for _, count := range []int{33, 63, 64} {
		p := newPair(t, 4, 2, someNodes(8, count)...)
		if got := p.ring.Nodes(); len(got) != count || !slices.IsSorted(got) {
			t.Fatalf("Nodes of %d: %v", count, got)
		}
		p.check(t)
	}
}

// TestOrderOfAllPoints (P16.1): of any number of points that a node may have just these are on the ring.
func TestOrderOfAllPoints(t *testing.T) {
	for each := 1; each <= 64; each++ {
		for _, count := range []int{1, 2, 5} {
			p := newPair(t, uint64(each), each, someNodes(3, count)...)
			p.check(t, someKeys()...)
			p.check(t, p.book.atPoints()...)
		}
	}
}

// TestOrderEdges (P16.1): of keys that stand below the first point, above the last one, at a point, and beside one.
func TestOrderEdges(t *testing.T) {
	for _, each := range []int{1, 2, 7} {
		for seed := range uint64(20) {
			p := newPair(t, seed, each, 10, 20, 30, 40)
			owner := map[uint64]uint64{}
			for _, node := range p.book.nodes {
				for _, at := range p.book.points(node) {
					owner[at] = node
				}
			}
			all := p.book.allPoints()
			first, last := all[0], all[len(all)-1]
			for _, place := range []uint64{0, first - 1, first, last + 1, math.MaxUint64} {
				p.wantFirst(t, place, owner[first])
			}
			for n, at := range all {
				p.wantFirst(t, at, owner[at])
				p.wantFirst(t, at-1, owner[at])
				p.wantFirst(t, at+1, owner[all[(n+1)%len(all)]])
			}
		}
	}
}

// wantFirst tells where the order of a key that stands at a place begins with another node, or is another one than the book's.
func (p pair) wantFirst(t *testing.T, place, want uint64) {
	t.Helper()
	key := drawOf(p.book.seed, place)
	if order := p.ring.Order(key); order[0] != want {
		t.Fatalf("the order from %d on is %v, want %d first", place, order, want)
	}
	if got, err := p.ring.Pick(key, nil, 100); got != want || err != api.OK {
		t.Fatalf("of a key at %d %d is picked, %v, want %d", place, got, err, want)
	}
	p.check(t, key)
}

// TestLikePoints (P16.1): of points at one place that of the lesser node comes first, whichever was added first, and whichever goes.
func TestLikePoints(t *testing.T) {
	for seed := range uint64(40) {
		for _, each := range []int{2, 3, 8} {
			one := rand.At(7, seed)
			trio := []uint64{one, besides(seed, one, 1), besides(seed, one, math.MaxUint64)}
			for _, nodes := range permutations(trio) {
				p := newPair(t, seed, each, nodes...)
				if all := p.book.allPoints(); len(slices.Compact(all)) != each+2 {
					t.Fatalf("%v have no points in common", nodes)
				}
				p.check(t, p.book.atPoints()...)
				p.drop(t, nodes[0], api.OK)
				p.check(t, p.book.atPoints()...)
				p.add(t, nodes[0], api.OK)
				p.check(t, p.book.atPoints()...)
			}
		}
	}
}

// TestLesserFirst (P16.1): so it is of two nodes, told without the book.
func TestLesserFirst(t *testing.T) {
	for seed := range uint64(60) {
		one := rand.At(8, seed)
		other := besides(seed, one, 1)
		key := drawOf(seed, rand.At(rand.Derive(seed, one), 1))
		want := []uint64{min(one, other), max(one, other)}
		for _, nodes := range permutations(want) {
			p := newPair(t, seed, 2, nodes...)
			if got := p.ring.Order(key); !slices.Equal(got, want) {
				t.Fatalf("seed %d: Order(%d) is %v, want %v", seed, key, got, want)
			}
		}
	}
}

// TestNoRing (P16.2): a nil ring, and one that New did not give, have nothing, and stay so.
func TestNoRing(t *testing.T) {
	var zero Ring
	refused, _ := New(1, 0)
	loads := map[uint64]int{0: 1, 1: -1}
	for name, r := range map[string]*Ring{"nil": nil, "new": new(Ring), "zero": &zero, "literal": {}, "refused": refused} {
		for range 3 {
			for _, n := range []uint64{0, 1, math.MaxUint64} {
				if err := r.Add(n); err != api.ErrNil {
					t.Errorf("%s: Add(%d): %v", name, n, err)
				}
				if err := r.Drop(n); err != api.ErrNil {
					t.Errorf("%s: Drop(%d): %v", name, n, err)
				}
				if order := r.Order(n); len(order) != 0 {
					t.Errorf("%s: Order(%d): %v", name, n, order)
				}
				for _, factor := range []int{math.MinInt, 0, 100, math.MaxInt} {
					if node, err := r.Pick(n, loads, factor); node != 0 || err != api.ErrNil {
						t.Errorf("%s: Pick(%d): %d, %v", name, n, node, err)
					}
					if node, err := r.Pick(n, nil, factor); node != 0 || err != api.ErrNil {
						t.Errorf("%s: Pick(%d): %d, %v", name, n, node, err)
					}
					if bound := r.Bound(loads, factor) + r.Bound(nil, factor); bound != 0 {
						t.Errorf("%s: Bound: %d", name, bound)
					}
				}
			}
			if nodes := r.Nodes(); len(nodes) != 0 {
				t.Errorf("%s: Nodes: %v", name, nodes)
			}
		}
	}
}

// TestTheCallersOwn (R4): what is answered may be written over, and no later call turns it.
func TestTheCallersOwn(t *testing.T) {
	p := newPair(t, 9, 5, 3, 1, 2, 8)
	rising := []uint64{1, 2, 3, 8}
	order := p.book.order(4)
	nodes, told := p.ring.Nodes(), p.ring.Order(4)
	for range 2 {
		for _, list := range [][]uint64{p.ring.Nodes(), p.ring.Order(4)} {
			for n := range list {
				list[n] = 77
			}
			_ = append(list[:0], 5, 5, 5, 5, 5)
		}
		p.check(t, someKeys()...)
	}
	p.drop(t, 2, api.OK)
	p.add(t, 9, api.OK)
	p.add(t, 10, api.OK)
	p.check(t, someKeys()...)
	if !slices.Equal(nodes, rising) || !slices.Equal(told, order) {
		t.Fatalf("what was told before has become %v and %v, want %v and %v", nodes, told, rising, order)
	}
}

// TestLoadsAreNotKept (R4): loads that are turned behind a call play no part in the next one.
func TestLoadsAreNotKept(t *testing.T) {
	p := newPair(t, 9, 5, 1, 2, 3)
	loads := map[uint64]int{1: 4, 2: 7}
	p.checkLoads(t, loads, 120, someKeys()...)
	loads[1], loads[3] = 90, 2
	p.checkLoads(t, nil, 120, someKeys()...)
	p.checkLoads(t, loads, 120, someKeys()...)
	clear(loads)
	p.checkLoads(t, loads, 120, someKeys()...)
}

// TestRingsAlone (R3): what is done to one ring plays no part in another, though both have the same seed.
func TestRingsAlone(t *testing.T) {
	a, b := newPair(t, 1, 3, 1, 2, 3), newPair(t, 1, 3, 3, 4)
	a.drop(t, 3, api.OK)
	b.add(t, 9, api.OK)
	a.check(t, someKeys()...)
	b.check(t, someKeys()...)
	a.drop(t, 4, api.ErrNone)
	b.drop(t, 4, api.OK)
	a.check(t, someKeys()...)
	b.check(t, someKeys()...)
}
