package rank

import (
	"math"
	"math/big"
	"testing"
)

// edges are numbers at which one counts otherwise, and some ordinary ones.
func edges() []int {
	return []int{math.MinInt, math.MinInt + 1, -1 << 32, -1 << 31, -most - 1, -most, -2, -1, 0, 1, 2, 3, 1000, 65537, most - 1, most, most + 1, most + 2, 1 << 31, 1<<32 + 1, math.MaxInt - 1, math.MaxInt}
}

// wantMark tells where a mark is another one, whatever the candidate's number and whether it may be asked.
func wantMark(t *testing.T, c Candidate, w Weights, want int64) {
	t.Helper()
	for _, replica := range []uint64{0, 1, 1 << 63, greatest} {
		for _, open := range []bool{false, true} {
			c.Replica, c.Open = replica, open
			if got := Mark(c, w); got != want {
				t.Fatalf("Mark(%v, %v) is %d, want %d", c, w, got, want)
			}
		}
	}
}

// TestMark (P19.1): marks that were reckoned by hand.
func TestMark(t *testing.T) {
	w := Weights{Known: 3, Load: 5, Bound: 100, Place: 7}
	for _, s := range []struct {
		c    Candidate
		w    Weights
		want int64
	}{
		{Candidate{}, Weights{}, 0},
		{Candidate{}, w, 0},
		{Candidate{Known: 10, Load: 20, Bound: true, Place: 30}, Weights{}, 0},
		{Candidate{Known: 10}, w, 30},
		{Candidate{Load: 10}, w, -50},
		{Candidate{Bound: true}, w, 100},
		{Candidate{Place: 10}, w, -70},
		{Candidate{Known: 10, Load: 2, Bound: true, Place: 4}, w, 92},
		{Candidate{Known: 10, Load: 2, Place: 4}, w, -8},
		{Candidate{Known: 1, Load: 1, Bound: true, Place: 1}, Weights{Known: 1, Load: 1, Bound: 1, Place: 1}, 0},
		{Candidate{Known: most, Bound: true}, Weights{Known: most, Bound: most}, 1<<40 + 1<<20},
		{Candidate{Load: most, Place: most}, Weights{Load: most, Place: most}, -1 << 41},
		{Candidate{Known: most, Load: most, Bound: true, Place: most}, Weights{most, most, most, most}, 1<<20 - 1<<40},
		{Candidate{Known: math.MaxInt, Load: math.MaxInt, Bound: true, Place: math.MaxInt}, Weights{math.MaxInt64, math.MaxInt64, math.MaxInt64, math.MaxInt64}, 1<<20 - 1<<40},
		{Candidate{Known: math.MinInt, Load: math.MinInt, Bound: true, Place: math.MinInt}, Weights{math.MinInt64, math.MinInt64, math.MinInt64, math.MinInt64}, 0},
		{Candidate{Known: -1, Load: -1, Bound: true, Place: -1}, w, 100},
		{Candidate{Known: 2, Load: 1, Bound: true, Place: 1}, Weights{Known: -3, Load: -5, Bound: -100, Place: -7}, 0},
		{Candidate{Known: most + 1}, w, 3 << 20},
		{Candidate{Load: most + 1}, w, -5 << 20},
		{Candidate{Place: most + 1}, w, -7 << 20},
		{Candidate{Known: 2}, Weights{Known: most + 1}, 1 << 21},
		{Candidate{Load: 2}, Weights{Load: most + 1}, -1 << 21},
		{Candidate{Bound: true}, Weights{Bound: most + 1}, 1 << 20},
		{Candidate{Place: 2}, Weights{Place: most + 1}, -1 << 21},
	} {
		wantMark(t, s.c, s.w, s.want)
	}
}

// TestMarkEdges (P19.1): each number with its weight, both at each edge, with the others as they may be.
func TestMarkEdges(t *testing.T) {
	others := []struct {
		c Candidate
		w Weights
	}{
		{}, {Candidate{Known: 7, Load: 5, Bound: true, Place: 3}, Weights{Known: 11, Load: 13, Bound: 17, Place: 19}},
		{Candidate{Known: most, Load: most, Place: most}, Weights{most, most, most, most}},
		{Candidate{Known: math.MaxInt, Load: -1, Bound: true, Place: -1}, Weights{Known: most + 1, Load: 5, Bound: -1, Place: 5}},
	}
	for _, o := range others {
		for _, n := range edges() {
			for _, weight := range edges() {
				c, w := o.c, o.w
				c.Known, w.Known = n, int64(weight)
				wantMark(t, c, w, markOf(c, w))
				c, w = o.c, o.w
				c.Load, w.Load = n, int64(weight)
				wantMark(t, c, w, markOf(c, w))
				c, w = o.c, o.w
				c.Place, w.Place = n, int64(weight)
				wantMark(t, c, w, markOf(c, w))
				c, w = o.c, o.w
				c.Bound, w.Bound = n%2 == 0, int64(weight)
				wantMark(t, c, w, markOf(c, w))
			}
		}
	}
}

// TestMarkWhole (P19.1): as numbers and weights are within their bounds no mark meets one of layer 1's: it is the whole number.
func TestMarkWhole(t *testing.T) {
	for n := range 3000 {
		l, w := drawnList(1, n), drawnWeights(1, n)
		for _, c := range l {
			whole := new(big.Int).Mul(big.NewInt(near(c.Known)), big.NewInt(near(w.Known)))
			if c.Bound {
				whole.Add(whole, big.NewInt(near(w.Bound)))
			}
			whole.Sub(whole, new(big.Int).Mul(big.NewInt(near(c.Load)), big.NewInt(near(w.Load))))
			whole.Sub(whole, new(big.Int).Mul(big.NewInt(near(c.Place)), big.NewInt(near(w.Place))))
			if got := Mark(c, w); whole.Cmp(big.NewInt(got)) != 0 {
				t.Fatalf("Mark(%v, %v) is %d, want %v", c, w, got, whole)
			}
		}
	}
}
