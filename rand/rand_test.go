package rand

import (
	"math"
	"math/big"
	"slices"
	"testing"
)

// some is a number that hangs on n alone, by another way than that of the program.
func some(n uint64) uint64 {
	h := uint64(0xcbf29ce484222325)
	for range 8 {
		h = (h ^ n&0xff) * 0x100000001b3
		n >>= 8
	}
	return h ^ h>>29
}

// numbers are the edges, each bit alone and each run of bits, and ordinary ones.
func numbers() []uint64 {
	all := []uint64{0, 1, 2, 3, 7, 255, 4095, 4096, math.MaxInt64, math.MaxUint64 - 1, math.MaxUint64}
	for i := range 64 {
		all = append(all, 1<<i, 1<<i-1, ^uint64(0)<<i, ^(uint64(1) << i))
	}
	for i := range uint64(300) {
		all = append(all, i, some(i))
	}
	slices.Sort(all)
	return slices.Compact(all)
}

// few are those numbers of which all pairs and triples are tried.
func few() []uint64 {
	return []uint64{0, 1, 2, 63, 1 << 31, 1 << 63, math.MaxInt64, math.MaxUint64 - 1, math.MaxUint64, some(1), some(2), some(3)}
}

// whole is a number without bounds.
func whole(n uint64) *big.Int { return new(big.Int).SetUint64(n) }

// cut is what is left of a number without bounds modulo 2^64.
func cut(n *big.Int) uint64 {
	return new(big.Int).And(n, whole(math.MaxUint64)).Uint64()
}

// turned is n, either by itself gone so many bits to the right, told bit by bit.
func turned(n uint64, by int) uint64 {
	var r uint64
	for i := range 64 {
		bit := n >> i & 1
		if i+by < 64 {
			bit = (bit + n>>(i+by)&1) % 2
		}
		r |= bit << i
	}
	return r
}

// times is the product modulo 2^64.
func times(a, b uint64) uint64 { return cut(new(big.Int).Mul(whole(a), whole(b))) }

// mixed is n mixed, as the chapter's words say.
func mixed(n uint64) uint64 {
	n = times(turned(n, 30), 0xBF58476D1CE4E5B9)
	n = times(turned(n, 27), 0x94D049BB133111EB)
	return turned(n, 31)
}

// drawn is the draw n of a seed, as the chapter's words say.
func drawn(seed, n uint64) uint64 {
	next := new(big.Int).Add(whole(n), big.NewInt(1))
	sum := next.Mul(next, whole(0x9E3779B97F4A7C15))
	return mixed(cut(sum.Add(sum, whole(seed))))
}

// upper is the upper half of a draw's product.
func upper(seed, n, most uint64) uint64 {
	product := new(big.Int).Mul(whole(drawn(seed, n)), whole(most))
	return product.Rsh(product, 64).Uint64()
}

// permuted is the permutation, as the chapter's words say.
func permuted(seed uint64, n int) []int {
	n = min(n, 4096)
	var p []int
	for i := 0; i < n; i++ {
		p = append(p, i)
	}
	for at := n; at >= 2; at-- {
		last, other := at-1, int(upper(seed, uint64(at-1), uint64(at)))
		held := p[last]
		p[last] = p[other]
		p[other] = held
	}
	return p
}

// inverse is what undoes being multiplied with an odd number.
func inverse(odd uint64) uint64 {
	return new(big.Int).ModInverse(whole(odd), new(big.Int).Lsh(big.NewInt(1), 64)).Uint64()
}

// turnedBack undoes turned.
func turnedBack(n uint64, by int) uint64 {
	r := n
	for at := by; at < 64; at += by {
		r = n ^ r>>by
	}
	return r
}

// parted undoes Mix.
func parted(n uint64) uint64 {
	n = turnedBack(n, 31) * inverse(0x94D049BB133111EB)
	n = turnedBack(n, 27) * inverse(0xBF58476D1CE4E5B9)
	return turnedBack(n, 30)
}

// P6.1: the chapter's example, and the draws behind it.
func TestFirstDraws(t *testing.T) {
	want := []uint64{0xE220A8397B1DCDAF, 0x6E789E6AA1B965F4, 0x06C45D188009454F, 0xF88BB8A8724C81EC}
	for n, w := range want {
		if got := At(0, uint64(n)); got != w {
			t.Fatalf("At(0, %d): %X, not %X", n, got, w)
		}
	}
}

// P6.1: a number is mixed as the words say.
func TestMix(t *testing.T) {
	if n := Mix(0); n != 0 {
		t.Fatalf("Mix(0): %X", n)
	}
	for _, n := range numbers() {
		if got, want := Mix(n), mixed(n); got != want {
			t.Fatalf("Mix(%X): %X, not %X", n, got, want)
		}
	}
}

// P6.1: a draw is of its seed and its number, also where these go round.
func TestAt(t *testing.T) {
	for _, seed := range few() {
		for _, n := range numbers() {
			if got, want := At(seed, n), drawn(seed, n); got != want {
				t.Fatalf("At(%X, %X): %X, not %X", seed, n, got, want)
			}
		}
	}
	for _, seed := range numbers() {
		if got, want := At(seed, math.MaxUint64), Mix(seed); got != want {
			t.Fatalf("At(%X, 2^64 - 1): %X, not that of the seed alone, %X", seed, got, want)
		}
	}
}

// P6.1: Below is the upper half of the product.
func TestBelow(t *testing.T) {
	for _, seed := range few() {
		for _, n := range few() {
			for _, most := range numbers() {
				if got, want := Below(seed, n, most), upper(seed, n, most); got != want {
					t.Fatalf("Below(%X, %X, %X): %X, not %X", seed, n, most, got, want)
				}
			}
		}
	}
}

// P6.1: Below at the edges of most.
func TestBelowEdges(t *testing.T) {
	for _, seed := range numbers() {
		for _, n := range few() {
			if got := Below(seed, n, 0); got != 0 {
				t.Fatalf("Below(%X, %X, 0): %X", seed, n, got)
			}
			if got := Below(seed, n, 1); got != 0 {
				t.Fatalf("Below(%X, %X, 1): %X", seed, n, got)
			}
			if got, want := Below(seed, n, 2), At(seed, n)>>63; got != want {
				t.Fatalf("Below(%X, %X, 2): %X, not %X", seed, n, got, want)
			}
			draw := At(seed, n)
			if got, want := Below(seed, n, math.MaxUint64), draw-min(draw, 1); got != want {
				t.Fatalf("Below(%X, %X, 2^64 - 1): %X, not %X", seed, n, got, want)
			}
		}
	}
}

// P6.1: Derive goes from label to label.
func TestDerive(t *testing.T) {
	for _, seed := range few() {
		if got := Derive(seed); got != seed {
			t.Fatalf("Derive(%X): %X", seed, got)
		}
		for _, a := range numbers() {
			if got, want := Derive(seed, a), drawn(seed, a); got != want {
				t.Fatalf("Derive(%X, %X): %X, not %X", seed, a, got, want)
			}
		}
		for _, a := range few() {
			for _, b := range few() {
				if got, want := Derive(seed, a, b), drawn(drawn(seed, a), b); got != want {
					t.Fatalf("Derive(%X, %X, %X): %X, not %X", seed, a, b, got, want)
				}
				if got, want := Derive(seed, a, b, a), drawn(drawn(drawn(seed, a), b), a); got != want {
					t.Fatalf("Derive(%X, %X, %X, %X): %X, not %X", seed, a, b, a, got, want)
				}
			}
		}
	}
}

// P6.1: the order of labels matters, and they may be cut anywhere.
func TestDeriveOrder(t *testing.T) {
	if Derive(7, 1, 2) == Derive(7, 2, 1) || Derive(0, 0, math.MaxUint64) == Derive(0, math.MaxUint64, 0) {
		t.Fatal("labels that were turned about make the same")
	}
	if Derive(7, 1) == Derive(7, 1, 0) || Derive(7, 0) == Derive(7) {
		t.Fatal("a label of 0 counts for nothing")
	}
	labels := few()
	want := Derive(5, labels...)
	for i := range labels {
		if got := Derive(Derive(5, labels[:i]...), labels[i:]...); got != want {
			t.Fatalf("cut at %d: %X, not %X", i, got, want)
		}
	}
}

// P6.1, R4, R6: labels stay as they are, and none are the same as an empty list of them.
func TestDeriveLeavesLabels(t *testing.T) {
	labels := few()
	Derive(9, labels...)
	if !slices.Equal(labels, few()) {
		t.Fatal(labels)
	}
	var none []uint64
	if Derive(9, none...) != 9 || Derive(9, []uint64{}...) != 9 {
		t.Fatal("no labels turn the seed")
	}
}

// P6.2: permutations as the words say, of ordinary sizes and at the edges.
func TestPerm(t *testing.T) {
	for _, seed := range few() {
		for _, n := range []int{1, 2, 3, 4, 5, 8, 9, 16, 64, 100, 1000} {
			if got, want := Perm(seed, n), permuted(seed, n); !slices.Equal(got, want) {
				t.Fatalf("Perm(%X, %d): %v, not %v", seed, n, got, want)
			}
		}
	}
	for seed := range uint64(200) {
		for _, n := range []int{2, 3, 7} {
			if got, want := Perm(seed, n), permuted(seed, n); !slices.Equal(got, want) {
				t.Fatalf("Perm(%X, %d): %v, not %v", seed, n, got, want)
			}
		}
	}
}

// P6.2: of an n below 1 there are no numbers, and of no n more than 4096.
func TestPermEdges(t *testing.T) {
	for _, seed := range few() {
		for _, n := range []int{0, -1, -2, -4096, math.MinInt64} {
			if p := Perm(seed, n); len(p) != 0 {
				t.Fatalf("Perm(%X, %d): %v", seed, n, p)
			}
		}
		if p := Perm(seed, 1); !slices.Equal(p, []int{0}) {
			t.Fatalf("Perm(%X, 1): %v", seed, p)
		}
	}
	for _, seed := range []uint64{0, 1, math.MaxUint64} {
		want := permuted(seed, 4096)
		for _, n := range []int{4096, 4097, 5000, math.MaxInt32, math.MaxInt64} {
			if p := Perm(seed, n); !slices.Equal(p, want) {
				t.Fatalf("Perm(%X, %d): of %d numbers, not the permutation of 4096", seed, n, len(p))
			}
		}
		if p := Perm(seed, 4095); len(p) != 4095 || !slices.Equal(p, permuted(seed, 4095)) {
			t.Fatalf("Perm(%X, 4095): of %d numbers", seed, len(p))
		}
	}
}

// P6.2: a place may change with itself: of two numbers both orders come, by the draw 1 alone.
func TestPermOfTwo(t *testing.T) {
	var same, other int
	for seed := range uint64(100) {
		p := Perm(seed, 2)
		if At(seed, 1)>>63 == 1 { // the place is drawn as itself
			same++
			if !slices.Equal(p, []int{0, 1}) {
				t.Fatalf("Perm(%d, 2): %v", seed, p)
			}
			continue
		}
		other++
		if !slices.Equal(p, []int{1, 0}) {
			t.Fatalf("Perm(%d, 2): %v", seed, p)
		}
	}
	if same == 0 || other == 0 {
		t.Fatalf("%d stay, %d change", same, other)
	}
}

// P6.2, R4: what is answered is the caller's.
func TestPermIsApart(t *testing.T) {
	p := Perm(3, 50)
	q := Perm(3, 50)
	clear(p[:cap(p)])
	if want := permuted(3, 50); !slices.Equal(q, want) || !slices.Equal(Perm(3, 50), want) {
		t.Fatal("a permutation was turned by writing into another one")
	}
}

// P6.2: a source gives the draws from 0 on, and counts them.
func TestSource(t *testing.T) {
	for _, seed := range few() {
		s := New(seed)
		for n := range uint64(200) {
			if at := s.At(); at != n {
				t.Fatalf("the source of %X is at %d, not %d", seed, at, n)
			}
			if got, want := s.Next(), drawn(seed, n); got != want {
				t.Fatalf("draw %d of %X: %X, not %X", n, seed, got, want)
			}
		}
		if s.At() != 200 || s.At() != 200 {
			t.Fatalf("the source of %X is at %d", seed, s.At())
		}
	}
}

// P6.2: a nil source gives 0, and stays at 0.
func TestNilSource(t *testing.T) {
	var s *Source
	for range 3 {
		if at, n := s.At(), s.Next(); at != 0 || n != 0 {
			t.Fatal(at, n)
		}
	}
	if at := s.At(); at != 0 {
		t.Fatal(at)
	}
}

// P6.2, R2: a count at its end stays there.
func TestSourceAtItsEnd(t *testing.T) {
	s := &Source{seed: 5, draws: math.MaxUint64 - 1}
	if n := s.Next(); n != drawn(5, math.MaxUint64-1) || s.At() != math.MaxUint64 {
		t.Fatal(n, s.At())
	}
	for range 2 {
		if n := s.Next(); n != drawn(5, math.MaxUint64) || s.At() != math.MaxUint64 {
			t.Fatal(n, s.At())
		}
	}
}

// P6.3: what is mixed may be told back, so that no two are mixed to one.
func TestMixToldBack(t *testing.T) {
	for _, n := range numbers() {
		if got := parted(Mix(n)); got != n {
			t.Fatalf("%X is mixed to %X, which is told back as %X", n, Mix(n), got)
		}
		if got := Mix(parted(n)); got != n {
			t.Fatalf("nothing is mixed to %X", n)
		}
	}
}

// P6.3: no two of many numbers near one another, and unlike in a bit alone, are mixed to one.
func TestMixApart(t *testing.T) {
	const many = 1 << 16
	var all []uint64
	for i := range uint64(many) {
		all = append(all, Mix(i), Mix(math.MaxUint64-i), Mix(1<<40+i<<20))
	}
	for i := range 62 {
		all = append(all, Mix(0x5555555555555555^uint64(1)<<i), Mix(0x5555555555555555^uint64(3)<<i))
	}
	slices.Sort(all)
	if n := len(slices.Compact(slices.Clone(all))); n != len(all) {
		t.Fatalf("%d numbers are mixed to %d", len(all), n)
	}
}

// P6.4: what is drawn below a number is below it, and comes to its edges.
func TestBelowIsBelow(t *testing.T) {
	for _, seed := range few() {
		for _, n := range numbers() {
			for _, most := range few() {
				if got := Below(seed, n, most); got >= most && most > 0 {
					t.Fatalf("Below(%X, %X, %X): %X", seed, n, most, got)
				}
			}
		}
	}
	for _, most := range []uint64{1, 2, 3, 5, 10} {
		seen := make([]int, most)
		for n := range uint64(1000) {
			seen[Below(11, n, most)]++
		}
		if slices.Contains(seen, 0) {
			t.Fatalf("below %d: %v", most, seen)
		}
	}
}

// P6.5: sources of one seed give the same, in whichever order they are asked; those of unlike seeds do not.
func TestSourcesOfOneSeed(t *testing.T) {
	a, b, other := New(42), New(42), New(43)
	var first, second, third []uint64
	for i := range 60 {
		first = append(first, a.Next())
		third = append(third, other.Next())
		for range i % 3 { // the other one lags behind, and catches up
			second = append(second, b.Next())
			b.At()
		}
	}
	if n := uint64(len(second)); b.At() != n || a.At() != 60 || other.At() != 60 {
		t.Fatal(a.At(), b.At(), other.At(), n)
	}
	if !slices.Equal(first, second[:60]) {
		t.Fatal("two sources of one seed give unlike draws")
	}
	if slices.Equal(first, third) {
		t.Fatal("sources of unlike seeds give the same")
	}
	for n, got := range first {
		if got != At(42, uint64(n)) {
			t.Fatalf("draw %d: %X", n, got)
		}
	}
}

// P6.6: a permutation has each number once.
func TestPermHasEachOnce(t *testing.T) {
	for _, n := range []int{1, 2, 3, 10, 255, 256, 4095, 4096, 4097} {
		for _, seed := range few() {
			p := Perm(seed, n)
			slices.Sort(p)
			if len(p) != min(n, 4096) {
				t.Fatalf("Perm(%X, %d) has %d numbers", seed, n, len(p))
			}
			for i, got := range p {
				if got != i {
					t.Fatalf("Perm(%X, %d) has %d in the place of %d, sorted", seed, n, got, i)
				}
			}
		}
	}
}
