package sat

import (
	"math"
	"math/big"
	"testing"
)

const (
	least = math.MinInt64
	most  = math.MaxInt64
)

// numbers are those at which sums and products meet a bound, or just do not, and some ordinary ones.
func numbers() []int64 {
	nums := []int64{
		least, least + 1, least + 2, least/2 - 1, least / 2, least/2 + 1,
		most, most - 1, most - 2, most/2 - 1, most / 2, most/2 + 1,
		most / 3, most/3 + 1, least / 3, least/3 - 1,
		3037000499, 3037000500, -3037000499, -3037000500, // about the root of 2^63
		1 << 31, 1 << 32, -(1 << 31), -(1 << 32), 1<<32 - 1, 1<<31 - 1,
		7, 13, 100, -7, -13, -100,
	}
	for n := int64(-4); n <= 4; n++ {
		nums = append(nums, n)
	}
	state := uint64(1)
	for i := range 120 {
		state = state*6364136223846793005 + 1442695040888963407
		nums = append(nums, int64(state)>>(i%64))
	}
	return nums
}

// inBounds is a whole number of any size, within the bounds of int64.
func inBounds(n *big.Int) int64 {
	if n.IsInt64() {
		return n.Int64()
	}
	if n.Sign() < 0 {
		return least
	}
	return most
}

// eachPair hands on every pair of numbers, small and as whole numbers of any size.
func eachPair(do func(a, b int64, x, y *big.Int)) {
	nums := numbers()
	for _, a := range nums {
		for _, b := range nums {
			do(a, b, big.NewInt(a), big.NewInt(b))
		}
	}
}

// P1.1: sums, differences and products are those of whole numbers of any size, within the bounds.
func TestWholeNumbersWithinBounds(t *testing.T) {
	eachPair(func(a, b int64, x, y *big.Int) {
		if got, want := Add(a, b), inBounds(new(big.Int).Add(x, y)); got != want {
			t.Fatalf("Add(%d, %d): %d, not %d", a, b, got, want)
		}
		if got, want := Sub(a, b), inBounds(new(big.Int).Sub(x, y)); got != want {
			t.Fatalf("Sub(%d, %d): %d, not %d", a, b, got, want)
		}
		if got, want := Mul(a, b), inBounds(new(big.Int).Mul(x, y)); got != want {
			t.Fatalf("Mul(%d, %d): %d, not %d", a, b, got, want)
		}
	})
}

// P1.1: the chapter's examples, and the edges by name.
func TestEdges(t *testing.T) {
	cases := []struct {
		name string
		got  int64
		want int64
	}{
		{"Add(most, 1)", Add(most, 1), most},
		{"Add(most, 0)", Add(most, 0), most},
		{"Add(most, least)", Add(most, least), -1},
		{"Add(most, most)", Add(most, most), most},
		{"Add(most-1, 1)", Add(most-1, 1), most},
		{"Add(least, least)", Add(least, least), least},
		{"Add(least, -1)", Add(least, -1), least},
		{"Add(least+1, -1)", Add(least+1, -1), least},
		{"Add(2, 3)", Add(2, 3), 5},
		{"Sub(0, least)", Sub(0, least), most},
		{"Sub(-1, least)", Sub(-1, least), most},
		{"Sub(-2, least)", Sub(-2, least), most - 1},
		{"Sub(least, 1)", Sub(least, 1), least},
		{"Sub(least, least)", Sub(least, least), 0},
		{"Sub(least, most)", Sub(least, most), least},
		{"Sub(most, -1)", Sub(most, -1), most},
		{"Sub(2, 3)", Sub(2, 3), -1},
		{"Mul(-2^62, 4)", Mul(-(1 << 62), 4), least},
		{"Mul(-2^62, 2)", Mul(-(1 << 62), 2), least},
		{"Mul(2^62, 2)", Mul(1<<62, 2), most},
		{"Mul(2^62, -2)", Mul(1<<62, -2), least},
		{"Mul(-2^62, -2)", Mul(-(1 << 62), -2), most},
		{"Mul(least, -1)", Mul(least, -1), most},
		{"Mul(-1, least)", Mul(-1, least), most},
		{"Mul(least, 1)", Mul(least, 1), least},
		{"Mul(1, least)", Mul(1, least), least},
		{"Mul(least, 0)", Mul(least, 0), 0},
		{"Mul(0, least)", Mul(0, least), 0},
		{"Mul(least, least)", Mul(least, least), most},
		{"Mul(least, most)", Mul(least, most), least},
		{"Mul(most, -1)", Mul(most, -1), least + 1},
		{"Mul(-7, 6)", Mul(-7, 6), -42},
	}
	for _, c := range cases {
		if c.got != c.want {
			t.Errorf("%s: %d, not %d", c.name, c.got, c.want)
		}
	}
}

// P1.1: Within keeps a number in two bounds, and answers the lower one if the upper one is below it.
func TestWithin(t *testing.T) {
	cases := []struct{ n, least, most, want int64 }{
		{5, 1, 9, 5}, {0, 1, 9, 1}, {10, 1, 9, 9}, {1, 1, 9, 1}, {9, 1, 9, 9},
		{4, 7, 7, 7}, {7, 7, 7, 7}, {9, 7, 7, 7},
		{0, 5, 3, 5}, {3, 5, 3, 5}, {4, 5, 3, 5}, {5, 5, 3, 5}, {9, 5, 3, 5},
		{least, least, most, least}, {most, least, most, most}, {0, least, most, 0},
		{least, 0, most, 0}, {most, least, 0, 0},
		{least, most, least, most}, {0, most, least, most}, {most, most, least, most},
		{-5, -9, -1, -5}, {-10, -9, -1, -9}, {0, -9, -1, -1},
	}
	for _, c := range cases {
		if got := Within(c.n, c.least, c.most); got != c.want {
			t.Errorf("Within(%d, %d, %d): %d, not %d", c.n, c.least, c.most, got, c.want)
		}
	}
}

// P1.1: Sum adds from 0 on, in order, so that a bound on the way counts.
func TestSum(t *testing.T) {
	cases := []struct {
		nums []int64
		want int64
	}{
		{nil, 0},
		{[]int64{}, 0},
		{[]int64{-3}, -3},
		{[]int64{least}, least},
		{[]int64{1, 2, 3, -10}, -4},
		{[]int64{least, least, least}, least},
		{[]int64{most, 1, -1}, most - 1},
		{[]int64{1, -1, most}, most},
		{[]int64{most, most, least}, -1},
		{[]int64{least, -5, most, 1}, 0},
	}
	for _, c := range cases {
		if got := Sum(c.nums...); got != c.want {
			t.Errorf("Sum(%d): %d, not %d", c.nums, got, c.want)
		}
	}
	if got := Sum(most, 1, -1); got != Add(Add(Add(0, most), 1), -1) {
		t.Errorf("Sum by three: %d", got)
	}
}

// R4: the list that Sum is handed stays as it is.
func TestSumLeavesItsList(t *testing.T) {
	nums := []int64{most, 1, -1}
	Sum(nums...)
	if nums[0] != most || nums[1] != 1 || nums[2] != -1 {
		t.Fatal(nums)
	}
}

// P1.3: sums and products may be turned about.
func TestTurnedAbout(t *testing.T) {
	eachPair(func(a, b int64, _, _ *big.Int) {
		if Add(a, b) != Add(b, a) || Mul(a, b) != Mul(b, a) || Sum(a, b) != Sum(b, a) {
			t.Fatalf("%d and %d turned about", a, b)
		}
	})
}

// P1.3: what is added within the bounds is taken away.
func TestAddedIsTakenAway(t *testing.T) {
	kept := 0
	eachPair(func(a, b int64, x, y *big.Int) {
		if !new(big.Int).Add(x, y).IsInt64() {
			return
		}
		kept++
		if got := Sub(Add(a, b), b); got != a {
			t.Fatalf("Sub(Add(%d, %d), %d): %d", a, b, b, got)
		}
	})
	if kept == 0 {
		t.Fatal("no pair lay within the bounds")
	}
}

// countersAsked are the numbers that counters are tried with.
func countersAsked() []uint32 {
	return []uint32{0, 1, 2, 3, 9, 1<<31 - 1, 1 << 31, math.MaxUint32 - 1, math.MaxUint32}
}

// upTo is a counter of n that is at most most.
func upTo(most, n uint32) Counter { return NewCounter(most).Up(n) }

// holds complains if the counter is another one than of n, or fuller or less full than most tells.
func holds(t *testing.T, what string, c Counter, n uint64, most uint32) {
	t.Helper()
	if uint64(c.N()) != n {
		t.Fatalf("%s: %d, not %d", what, c.N(), n)
	}
	if c.Full() != (n == uint64(most)) {
		t.Fatalf("%s: Full is %v at %d of %d", what, c.Full(), n, most)
	}
}

// P1.2: a counter goes up to its most and down to 0; P1.4: and never round.
func TestCounterStaysInItsBounds(t *testing.T) {
	for _, most := range countersAsked() {
		holds(t, "new", NewCounter(most), 0, most)
		for _, n := range countersAsked() {
			start := min(n, most)
			c := upTo(most, n)
			holds(t, "up from 0", c, uint64(start), most)
			for _, by := range countersAsked() {
				holds(t, "up", c.Up(by), min(uint64(start)+uint64(by), uint64(most)), most)
				holds(t, "down", c.Down(by), uint64(start)-min(uint64(start), uint64(by)), most)
			}
		}
	}
}

// P1.2: the zero counter is at most 0, and so full.
func TestZeroCounter(t *testing.T) {
	var c Counter
	holds(t, "zero", c, 0, 0)
	holds(t, "zero up", c.Up(1), 0, 0)
	holds(t, "zero up far", c.Up(math.MaxUint32), 0, 0)
	holds(t, "zero down", c.Down(1), 0, 0)
	if c != NewCounter(0) {
		t.Fatal("the zero counter is another one than a new one of at most 0")
	}
}

// P1.2: Up and Down answer another counter, which keeps the most, and leave theirs as it is.
func TestCounterIsAValue(t *testing.T) {
	c := upTo(5, 2)
	up, down := c.Up(1), c.Down(1)
	holds(t, "left as it is", c, 2, 5)
	holds(t, "up", up, 3, 5)
	holds(t, "down", down, 1, 5)
	holds(t, "down and up again", down.Down(9).Up(9), 5, 5)
}

// P1.4: whatever is asked of it, a counter goes the way that it is told, or stays.
func TestCounterNeverGoesRound(t *testing.T) {
	for _, most := range countersAsked() {
		c := NewCounter(most)
		for range 3 {
			for _, by := range countersAsked() {
				up := c.Up(by)
				if up.N() < c.N() || up.N() > most {
					t.Fatalf("%d up by %d of at most %d: %d", c.N(), by, most, up.N())
				}
				down := up.Down(by)
				if down.N() > up.N() {
					t.Fatalf("%d down by %d: %d", up.N(), by, down.N())
				}
				c = up
			}
		}
		if !c.Full() {
			t.Fatalf("%d of %d behind all that was added", c.N(), most)
		}
	}
}
