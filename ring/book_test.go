package ring

import (
	"cmp"
	"maps"
	"math"
	"math/big"
	"slices"
	"testing"

	"garboard/api"
	"garboard/rand"
)

// book is a ring as the chapter's words tell it: its nodes in the order in which they came.
type book struct {
	seed  uint64
	each  int
	nodes []uint64
}

// add is Add.
func (b *book) add(node uint64) api.Errno {
	switch {
	case slices.Contains(b.nodes, node):
		return api.ErrThere
	case len(b.nodes) == 64:
		return api.ErrMany
	}
	b.nodes = append(b.nodes, node)
	return api.OK
}

// drop is Drop.
func (b *book) drop(node uint64) api.Errno {
	at := slices.Index(b.nodes, node)
	if at < 0 {
		return api.ErrNone
	}
	b.nodes = slices.Delete(b.nodes, at, at+1)
	return api.OK
}

// rising is Nodes.
func (b *book) rising() []uint64 { return slices.Sorted(slices.Values(b.nodes)) }

// points are where a node's points are: the draws of a source.
func (b *book) points(node uint64) []uint64 {
	s := rand.New(rand.Derive(b.seed, node))
	var all []uint64
	for range b.each {
		all = append(all, s.Next())
	}
	return all
}

// way is how far it is from a place, upward and round, to the first point of a node.
func (b *book) way(place, node uint64) uint64 {
	least := uint64(math.MaxUint64)
	for _, at := range b.points(node) {
		least = min(least, at-place)
	}
	return least
}

// order is Order: of each node how far it is, the shortest way first, of like ones the lesser node.
func (b *book) order(key uint64) []uint64 {
	place := rand.At(b.seed, key)
	ways := map[uint64]uint64{}
	for _, node := range b.nodes {
		ways[node] = b.way(place, node)
	}
	order := b.rising()
	slices.SortStableFunc(order, func(a, c uint64) int { return cmp.Compare(ways[a], ways[c]) })
	return order
}

// load is what a load counts as.
func load(n int) int64 {
	switch {
	case n < 0:
		return 0
	case n > 1048576:
		return 1048576
	}
	return int64(n)
}

// bound is Bound, by numbers without bounds.
func (b *book) bound(loads map[uint64]int, factor int) int {
	if len(b.nodes) == 0 {
		return 0
	}
	if factor < 100 {
		factor = 100
	}
	if factor > 10000 {
		factor = 10000
	}
	sum := big.NewInt(1)
	for _, node := range b.nodes {
		sum.Add(sum, big.NewInt(load(loads[node])))
	}
	sum.Mul(sum, big.NewInt(int64(factor)))
	whole, rest := sum.QuoRem(sum, big.NewInt(100*int64(len(b.nodes))), new(big.Int))
	if rest.Sign() > 0 {
		whole.Add(whole, big.NewInt(1))
	}
	return int(whole.Int64())
}

// pick is Pick; that no node is found where there are some is the number 13, which no call answers.
func (b *book) pick(key uint64, loads map[uint64]int, factor int) (uint64, api.Errno) {
	if len(b.nodes) == 0 {
		return 0, api.ErrNone
	}
	bound := int64(b.bound(loads, factor))
	for _, node := range b.order(key) {
		if load(loads[node]) < bound {
			return node, api.OK
		}
	}
	return 0, 13
}

// pair is a ring, and its book.
type pair struct {
	ring *Ring
	book *book
}

// newPair is a ring with nodes that are added in this order.
func newPair(t *testing.T, seed uint64, each int, nodes ...uint64) pair {
	t.Helper()
	r, err := New(seed, each)
	if r == nil || err != api.OK {
		t.Fatalf("New(%d, %d): %v", seed, each, err)
	}
	p := pair{ring: r, book: &book{seed: seed, each: each}}
	for _, node := range nodes {
		p.add(t, node, api.OK)
	}
	return p
}

// add adds a node to both, which answer the same, and as is wanted.
func (p pair) add(t *testing.T, node uint64, want api.Errno) {
	t.Helper()
	if got, told := p.ring.Add(node), p.book.add(node); got != want || told != want {
		t.Fatalf("Add(%d): %v, the book: %v, want %v", node, got, told, want)
	}
}

// drop lets a node go of both, which answer the same, and as is wanted.
func (p pair) drop(t *testing.T, node uint64, want api.Errno) {
	t.Helper()
	if got, told := p.ring.Drop(node), p.book.drop(node); got != want || told != want {
		t.Fatalf("Drop(%d): %v, the book: %v, want %v", node, got, told, want)
	}
}

// check tells where the ring tells otherwise than its book of its nodes, and of some keys.
func (p pair) check(t *testing.T, keys ...uint64) {
	t.Helper()
	if got, want := p.ring.Nodes(), p.book.rising(); !slices.Equal(got, want) {
		t.Fatalf("seed %d, %d points: Nodes is %v, want %v", p.book.seed, p.book.each, got, want)
	}
	for _, key := range keys {
		if got, want := p.ring.Order(key), p.book.order(key); !slices.Equal(got, want) {
			t.Fatalf("seed %d, %d points, nodes %v: Order(%d) is %v, want %v", p.book.seed, p.book.each, p.book.nodes, key, got, want)
		}
	}
}

// checkLoads tells where the ring tells otherwise than its book of some keys by loads, or turns these.
func (p pair) checkLoads(t *testing.T, loads map[uint64]int, factor int, keys ...uint64) {
	t.Helper()
	ahead := maps.Clone(loads)
	if got, want := p.ring.Bound(loads, factor), p.book.bound(loads, factor); got != want {
		t.Fatalf("nodes %v: Bound(%v, %d) is %d, want %d", p.book.nodes, loads, factor, got, want)
	}
	for _, key := range keys {
		got, err := p.ring.Pick(key, loads, factor)
		if want, wanted := p.book.pick(key, loads, factor); got != want || err != wanted {
			t.Fatalf("nodes %v: Pick(%d, %v, %d): %d, %v, want %d, %v", p.book.nodes, key, loads, factor, got, err, want, wanted)
		}
	}
	if !maps.Equal(loads, ahead) {
		t.Fatalf("the loads were %v, and are %v", ahead, loads)
	}
}

// someKeys are keys of all kinds.
func someKeys() []uint64 {
	keys := []uint64{0, 1, 2, 3, 63, 64, 1 << 31, 1 << 32, 1 << 63, math.MaxInt64, math.MaxUint64 - 1, math.MaxUint64}
	for n := range uint64(20) {
		keys = append(keys, rand.At(99, n))
	}
	return keys
}

// someNodes are so many nodes, of which no two are alike: small numbers and great ones, not rising.
func someNodes(seed uint64, count int) []uint64 {
	var all []uint64
	for n := range count {
		if n%2 == 0 {
			all = append(all, uint64(n))
		} else {
			all = append(all, rand.At(seed, uint64(n))|1<<32)
		}
	}
	return shuffled(seed, all)
}

// shuffled are the same numbers in a drawn order.
func shuffled(seed uint64, all []uint64) []uint64 {
	var other []uint64
	for _, at := range rand.Perm(seed, len(all)) {
		other = append(other, all[at])
	}
	return other
}

// inverse is the number that, multiplied with an odd one, is 1 modulo 2^64: each round doubles how many bits are right.
func inverse(odd uint64) uint64 {
	n := odd
	for range 6 {
		n *= 2 - odd*n
	}
	return n
}

// unmixed is the number that is mixed to n.
func unmixed(n uint64) uint64 {
	n = (n ^ n>>31 ^ n>>62) * inverse(0x94D049BB133111EB)
	n = (n ^ n>>27 ^ n>>54) * inverse(0xBF58476D1CE4E5B9)
	return n ^ n>>30 ^ n>>60
}

// drawOf is which draw of a seed is this number.
func drawOf(seed, n uint64) uint64 {
	return (unmixed(n)-seed)*inverse(0x9E3779B97F4A7C15) - 1
}

// TestDrawOf: the book's way back from a draw to its number is one.
func TestDrawOf(t *testing.T) {
	for n := range uint64(200) {
		seed, key := rand.At(1, n), rand.At(2, n)
		if got := drawOf(seed, rand.At(seed, key)); got != key {
			t.Fatalf("the draw %d of the seed %d is told to be the draw %d", key, seed, got)
		}
	}
}

// allPoints are where all points of a book's nodes are, rising.
func (b *book) allPoints() []uint64 {
	var all []uint64
	for _, node := range b.nodes {
		all = append(all, b.points(node)...)
	}
	slices.Sort(all)
	return all
}

// atPoints are keys that stand at each point, one place below it and one above it, and at the ends of the ring.
func (b *book) atPoints() []uint64 {
	keys := []uint64{drawOf(b.seed, 0), drawOf(b.seed, math.MaxUint64)}
	for _, at := range b.allPoints() {
		keys = append(keys, drawOf(b.seed, at-1), drawOf(b.seed, at), drawOf(b.seed, at+1))
	}
	return keys
}

// besides is the node whose points are those of another one, moved by so many draws: it has places in common with that.
func besides(seed, node, by uint64) uint64 {
	return drawOf(seed, rand.Derive(seed, node)+by*0x9E3779B97F4A7C15)
}
