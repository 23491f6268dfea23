package ring

import (
	"slices"
	"testing"

	"garboard/api"
	"garboard/rand"
)

// setting is a ring, from how many numbers its nodes are drawn, and how many calls there are.
type setting struct {
	seed              uint64
	each, from, calls int
}

// someSettings are rings of few and of many points and nodes: also of more than there may be.
func someSettings() []setting {
	return []setting{
		{0, 1, 1, 60}, {1, 1, 3, 200}, {2, 2, 5, 200}, {3, 64, 2, 100}, {4, 3, 12, 300}, {5, 64, 9, 200},
		{6, 1, 80, 600}, {7, 4, 90, 600}, {8, 64, 70, 400}, {1 << 63, 1, 66, 500},
	}
}

// pool are the numbers from which a setting's nodes are drawn: some have points in common.
func (s setting) pool() []uint64 {
	all := someNodes(s.seed, s.from)
	for n := 3; n < len(all); n += 4 {
		all[n] = besides(s.seed, all[n-1], 1)
	}
	return all
}

// call is an Add or a Drop.
type call struct {
	drop bool
	node uint64
}

// drawCall is one of any node of a pool: in each third phase most are drops, else most are adds, so that rings become full, and empty again.
func drawCall(source *rand.Source, pool []uint64, phase int) call {
	node := pool[source.Next()%uint64(len(pool))]
	often := uint64(1)
	if phase%3 == 2 {
		often = 4
	}
	return call{drop: source.Next()%6 < often, node: node}
}

// do does it to both, which answer the same.
func (p pair) do(t *testing.T, c call) api.Errno {
	t.Helper()
	if c.drop {
		want := (&book{nodes: slices.Clone(p.book.nodes)}).drop(c.node)
		p.drop(t, c.node, want)
		return want
	}
	want := (&book{nodes: slices.Clone(p.book.nodes)}).add(c.node)
	p.add(t, c.node, want)
	return want
}

// TestDrawnOrders (P16.1, P16.2): calls in drawn orders answer as the chapter's words say, and leave behind what they say.
func TestDrawnOrders(t *testing.T) {
	answers := map[api.Errno]int{}
	for _, s := range someSettings() {
		p, pool := newPair(t, s.seed, s.each), s.pool()
		source := rand.New(rand.Derive(11, s.seed, uint64(s.each)))
		for n := range s.calls {
			answers[p.do(t, drawCall(source, pool, n*8/s.calls))]++
			key := source.Next()
			p.check(t, key, uint64(n))
			p.checkLoads(t, drawnLoads(source, p.book.nodes), drawnFactor(source), key)
			if len(p.book.nodes) > 0 && n%5 == 0 {
				all := p.book.allPoints()
				at := all[source.Next()%uint64(len(all))]
				p.check(t, drawOf(s.seed, at-1), drawOf(s.seed, at), drawOf(s.seed, at+1))
			}
		}
	}
	for _, err := range []api.Errno{api.OK, api.ErrThere, api.ErrMany, api.ErrNone} {
		if answers[err] == 0 {
			t.Errorf("nothing was answered with %v", err)
		}
	}
}

// TestRefusedTurnsNothing (R7): behind calls that are refused a ring goes on as another one of which nothing was refused.
func TestRefusedTurnsNothing(t *testing.T) {
	for _, s := range someSettings() {
		p, twin, pool := newPair(t, s.seed, s.each), newPair(t, s.seed, s.each), s.pool()
		source := rand.New(rand.Derive(12, s.seed))
		for n := range s.calls {
			c := drawCall(source, pool, n*8/s.calls)
			if p.do(t, c) == api.OK {
				twin.do(t, c)
			}
			key := source.Next()
			if got, want := p.ring.Order(key), twin.ring.Order(key); !slices.Equal(got, want) {
				t.Fatalf("Order(%d) is %v, without refused calls %v", key, got, want)
			}
			if len(p.ring.points) != len(twin.ring.points) || len(p.ring.points) != s.each*len(p.book.nodes) {
				t.Fatalf("%d nodes have %d points, without refused calls %d", len(p.book.nodes), len(p.ring.points), len(twin.ring.points))
			}
		}
	}
}

// without is a list without one number.
func without(list []uint64, but uint64) []uint64 {
	return slices.DeleteFunc(slices.Clone(list), func(n uint64) bool { return n == but })
}

// rings are many rings with nodes: also ones with points in common.
func rings() []book {
	var all []book
	for _, s := range someSettings() {
		for _, count := range []int{1, 2, 7, 63} {
			if nodes := s.pool(); count <= len(nodes) {
				all = append(all, book{seed: s.seed, each: s.each, nodes: nodes[:count]})
			}
		}
	}
	return all
}

// orders are the orders of some keys.
func (p pair) orders(keys []uint64) [][]uint64 {
	var all [][]uint64
	for _, key := range keys {
		all = append(all, p.ring.Order(key))
	}
	return all
}

// wantWithout tells where orders of a ring without a node are not those with it, but for that node.
func wantWithout(t *testing.T, with, less [][]uint64, node uint64) {
	t.Helper()
	for n := range with {
		if want := without(with[n], node); len(want) != len(with[n])-1 || !slices.Equal(less[n], want) {
			t.Fatalf("an order is %v, and without %d %v", with[n], node, less[n])
		}
	}
}

// TestOthersStay (P16.3): a key's order has each node once; to drop any node, and to add it, or one more, turns the order of the others not.
func TestOthersStay(t *testing.T) {
	for _, r := range rings() {
		p := newPair(t, r.seed, r.each, r.nodes...)
		keys := append(someKeys()[:10], p.book.atPoints()[:5]...)
		ahead := p.orders(keys)
		for _, order := range ahead {
			if !slices.Equal(slices.Sorted(slices.Values(order)), p.ring.Nodes()) {
				t.Fatalf("the order %v has not each of %v once", order, p.ring.Nodes())
			}
		}
		for _, node := range slices.Clone(p.book.nodes) {
			p.drop(t, node, api.OK)
			wantWithout(t, ahead, p.orders(keys), node)
			p.add(t, node, api.OK)
			if !slices.EqualFunc(p.orders(keys), ahead, slices.Equal) {
				t.Fatalf("%d was dropped and added: the orders are %v, and were %v", node, p.orders(keys), ahead)
			}
		}
		for _, more := range []uint64{1 << 50, besides(p.book.seed, p.book.nodes[0], 2)} {
			if slices.Contains(p.book.nodes, more) {
				continue
			}
			p.add(t, more, api.OK)
			wantWithout(t, p.orders(keys), ahead, more)
			p.drop(t, more, api.OK)
		}
	}
}

// TestOrderOfComing (P16.5): of the same nodes the same is picked, in whichever order they came, and if some of them, or others, went in between.
func TestOrderOfComing(t *testing.T) {
	for n, r := range rings() {
		first := newPair(t, r.seed, r.each, r.nodes...)
		source := rand.New(rand.Derive(13, uint64(n)))
		for range 6 {
			other := newPair(t, r.seed, r.each)
			for _, node := range shuffled(source.Next(), r.nodes) {
				other.addOddly(t, source, node)
			}
			for _, node := range shuffled(source.Next(), r.nodes)[:len(r.nodes)/2] {
				other.drop(t, node, api.OK)
				other.add(t, node, api.OK)
			}
			for _, key := range append(someKeys()[:10], first.book.atPoints()[:5]...) {
				loads, factor := drawnLoads(source, r.nodes), drawnFactor(source)
				wantSame(t, first.ring, other.ring, key, loads, factor)
			}
			if !slices.Equal(first.ring.Nodes(), other.ring.Nodes()) {
				t.Fatalf("the nodes are %v and %v", first.ring.Nodes(), other.ring.Nodes())
			}
		}
	}
}

// addOddly adds a node, sometimes with another one that goes again, and sometimes twice.
func (p pair) addOddly(t *testing.T, source *rand.Source, node uint64) {
	t.Helper()
	more := besides(p.book.seed, node, 3)
	odd := source.Next()%3 == 0 && !slices.Contains(p.book.nodes, more) && more != node
	if odd {
		p.add(t, more, api.OK)
	}
	p.add(t, node, api.OK)
	if odd {
		p.drop(t, more, api.OK)
		p.drop(t, node, api.OK)
		p.add(t, node, api.OK)
	}
}

// wantSame tells where two rings tell not the same of a key by loads.
func wantSame(t *testing.T, a, b *Ring, key uint64, loads map[uint64]int, factor int) {
	t.Helper()
	one, errOne := a.Pick(key, loads, factor)
	two, errTwo := b.Pick(key, loads, factor)
	if one != two || errOne != api.OK || errTwo != api.OK {
		t.Fatalf("of %d by %v and %d: %d, %v, and %d, %v", key, loads, factor, one, errOne, two, errTwo)
	}
	if !slices.Equal(a.Order(key), b.Order(key)) || a.Bound(loads, factor) != b.Bound(loads, factor) {
		t.Fatalf("of %d: %v, %d, and %v, %d", key, a.Order(key), a.Bound(loads, factor), b.Order(key), b.Bound(loads, factor))
	}
}
