package fixed

import (
	"math"
	"math/big"
	"slices"
	"testing"
)

const (
	lower = -2147483648
	upper = 2147483647
)

// some is a number that hangs on n alone.
func some(n uint64) int64 {
	h := uint64(0xcbf29ce484222325)
	for range 8 {
		h = (h ^ n&0xff) * 0x100000001b3
		n >>= 8
	}
	return int64(h ^ h>>29)
}

// edges are the numbers at both bounds, beside them and beyond them, at the ends of int64, about 0 and about One.
func edges() []int64 {
	return []int64{
		math.MinInt64, math.MinInt64 + 1, -1 << 62, -1 << 48, 2 * lower, lower - 1, lower, lower + 1,
		-5 * One, -One - 1, -One, -One + 1, -32769, -32768, -7, -3, -2, -1, 0, 1, 2, 3, 7, 32767, 32768,
		One - 1, One, One + 1, 5 * One, upper - 1, upper, upper + 1, 2 * upper, 1 << 48, 1 << 62, math.MaxInt64 - 1, math.MaxInt64,
	}
}

// numbers are the edges, each power of 2 and its neighbours on both sides of 0, and ordinary numbers of all sizes.
func numbers() []int64 {
	all := edges()
	for i := range 63 {
		n := int64(1) << i
		all = append(all, n-1, n, n+1, -n-1, -n, -n+1)
	}
	for i := range uint64(400) {
		n := some(i)
		all = append(all, n, n>>(i%63), n>>33, n>>45)
	}
	slices.Sort(all)
	return slices.Compact(all)
}

// whole is a number without bounds.
func whole(n int64) *big.Int { return big.NewInt(n) }

// bounded is a number without bounds, taken within those of the chapter.
func bounded(n *big.Int) *big.Int {
	if n.Cmp(whole(lower)) < 0 {
		return whole(lower)
	}
	if n.Cmp(whole(upper)) > 0 {
		return whole(upper)
	}
	return n
}

// taken is a number as it is handed in.
func taken(n int64) *big.Int { return bounded(whole(n)) }

// told is what comes out.
func told(n *big.Int) int64 { return bounded(n).Int64() }

func sum(a, b *big.Int) *big.Int { return new(big.Int).Add(a, b) }

func product(a, b *big.Int) *big.Int { return new(big.Int).Mul(a, b) }

// quotient is the greatest whole number that is not above a by b, told by the chapter's word alone: the one q for which b times q is on the one side of a, and b times the next on the other.
func quotient(t *testing.T, a, b *big.Int) *big.Int {
	q := new(big.Int).Quo(a, b)
	if b.Sign() < 0 {
		a, b = new(big.Int).Neg(a), new(big.Int).Neg(b)
	}
	for product(q, b).Cmp(a) > 0 {
		q.Sub(q, whole(1))
	}
	if product(sum(q, whole(1)), b).Cmp(a) <= 0 {
		t.Fatal("the quotient is too small", a, b, q)
	}
	return q
}

// power is what P7.2 tells.
func power(t *testing.T, x int64) int64 {
	one := whole(One)
	y := quotient(t, product(taken(x), whole(94548)), one)
	k := quotient(t, y, one)
	f := new(big.Int).Sub(y, product(k, one))
	p := quotient(t, product(f, whole(21845)), one)
	p = sum(p, whole(43691))
	p = sum(quotient(t, product(f, p), one), one)
	if k.Sign() < 0 {
		two := new(big.Int).Lsh(whole(1), uint(-k.Int64()))
		return told(quotient(t, p, two))
	}
	if k.Cmp(whole(16)) >= 0 {
		return upper
	}
	return told(p.Lsh(p, uint(k.Int64())))
}

// TestOne: a number has 16 bits behind its point.
func TestOne(t *testing.T) {
	if One != 1<<16 {
		t.Fatal(One)
	}
}

// TestWithin (P7.1): numbers between the bounds stay as they are, others become the nearer bound.
func TestWithin(t *testing.T) {
	for _, c := range []struct{ n, want int64 }{
		{0, 0}, {-1, -1}, {upper, upper}, {upper + 1, upper}, {upper - 1, upper - 1}, {math.MaxInt64, upper},
		{lower, lower}, {lower - 1, lower}, {lower + 1, lower + 1}, {math.MinInt64, lower}, {1 << 32, upper}, {-1 << 32, lower},
	} {
		if got := Within(c.n); got != c.want {
			t.Errorf("Within(%d) = %d, want %d", c.n, got, c.want)
		}
	}
	for _, n := range numbers() {
		if got, want := Within(n), taken(n).Int64(); got != want {
			t.Errorf("Within(%d) = %d, want %d", n, got, want)
		}
	}
}

// TestAddMulDiv (P7.1): of all pairs, against numbers of any size.
func TestAddMulDiv(t *testing.T) {
	all := numbers()
	for i, a := range all {
		for j, b := range all {
			// All edges with all, the rest by turns.
			if i%7 != j%7 && !slices.Contains(edges(), a) {
				continue
			}
			checkPair(t, a, b)
		}
	}
}

func checkPair(t *testing.T, a, b int64) {
	t.Helper()
	x, y := taken(a), taken(b)
	if got, want := Add(a, b), told(sum(x, y)); got != want {
		t.Errorf("Add(%d, %d) = %d, want %d", a, b, got, want)
	}
	if got, want := Mul(a, b), told(quotient(t, product(x, y), whole(One))); got != want {
		t.Errorf("Mul(%d, %d) = %d, want %d", a, b, got, want)
	}
	if b == 0 {
		return
	}
	if got, want := Div(a, b), told(quotient(t, product(x, whole(One)), y)); got != want {
		t.Errorf("Div(%d, %d) = %d, want %d", a, b, got, want)
	}
}

// TestAddTable (P7.1): sums that stay and sums that leave the bounds, of numbers that are taken within them first.
func TestAddTable(t *testing.T) {
	for _, c := range []struct{ a, b, want int64 }{
		{3, 4, 7}, {-3, 4, 1}, {upper, 0, upper}, {upper, 1, upper}, {upper, -1, upper - 1}, {upper, upper, upper},
		{lower, 0, lower}, {lower, -1, lower}, {lower, 1, lower + 1}, {lower, lower, lower}, {upper, lower, -1},
		{math.MaxInt64, math.MaxInt64, upper}, {math.MinInt64, math.MinInt64, lower}, {math.MaxInt64, math.MinInt64, -1},
		{math.MaxInt64, -1, upper - 1}, {math.MinInt64, 1, lower + 1}, {upper + 1, -5, upper - 5}, {lower - 1, 5, lower + 5},
	} {
		if got := Add(c.a, c.b); got != c.want {
			t.Errorf("Add(%d, %d) = %d, want %d", c.a, c.b, got, c.want)
		}
	}
}

// TestMulTable (P7.1): a product that is no whole number goes down on both sides of 0.
func TestMulTable(t *testing.T) {
	for _, c := range []struct{ a, b, want int64 }{
		{3 * One / 2, 2 * One, 3 * One}, {1, 1, 0}, {1, -1, -1}, {-1, -1, 0}, {1, One - 1, 0}, {-1, One - 1, -1},
		{3, One / 2, 1}, {-3, One / 2, -2}, {3, -One / 2, -2}, {-3, -One / 2, 1}, {0, upper, 0}, {0, lower, 0}, {0, math.MinInt64, 0},
		{upper, 2 * One, upper}, {lower, 2 * One, lower}, {lower, -One, upper}, {upper, -One, -upper}, {upper, -2 * One, lower},
		{lower, lower, upper}, {upper, upper, upper}, {lower, upper, lower},
		{math.MinInt64, math.MinInt64, upper}, {math.MaxInt64, math.MaxInt64, upper}, {math.MinInt64, math.MaxInt64, lower},
		{math.MaxInt64, 1, 32767}, {math.MinInt64, 1, -32768}, {upper + 1, 1, 32767}, {lower - 1, 1, -32768},
	} {
		if got := Mul(c.a, c.b); got != c.want {
			t.Errorf("Mul(%d, %d) = %d, want %d", c.a, c.b, got, c.want)
		}
	}
}

// TestDivTable (P7.1): a quotient that is no whole number goes down on both sides of 0.
func TestDivTable(t *testing.T) {
	for _, c := range []struct{ a, b, want int64 }{
		{3 * One, 2 * One, 3 * One / 2}, {One, 3 * One, 21845}, {-One, 3 * One, -21846}, {One, -3 * One, -21846}, {-One, -3 * One, 21845},
		{2 * One, -One, -2 * One}, {-2 * One, -One, 2 * One}, {1, 2 * One, 0}, {-1, 2 * One, -1}, {1, -2 * One, -1}, {-1, -2 * One, 0},
		{upper, 1, upper}, {lower, 1, lower}, {upper, -1, lower}, {lower, -1, upper}, {upper, upper, One}, {lower, lower, One},
		{upper, lower, -One}, {lower, upper, -One - 1}, {0, lower, 0}, {0, upper, 0}, {32767, 1, 32767 * One}, {32768, 1, upper}, {-32768, 1, lower}, {-32769, 1, lower},
		{math.MaxInt64, math.MaxInt64, One}, {math.MinInt64, math.MinInt64, One}, {One, math.MaxInt64, 2}, {-One, math.MaxInt64, -3}, {One, math.MinInt64, -2},
		{math.MinInt64, One, lower}, {math.MinInt64, -1, upper}, {math.MaxInt64, -One, -upper},
	} {
		if got := Div(c.a, c.b); got != c.want {
			t.Errorf("Div(%d, %d) = %d, want %d", c.a, c.b, got, c.want)
		}
	}
}

// TestDivByNone (P7.1): a divisor of 0 makes a bound of all numbers but 0.
func TestDivByNone(t *testing.T) {
	for _, a := range numbers() {
		var want int64
		if a > 0 {
			want = upper
		}
		if a < 0 {
			want = lower
		}
		if got := Div(a, 0); got != want {
			t.Errorf("Div(%d, 0) = %d, want %d", a, got, want)
		}
	}
}

// TestFromIntFloor (P7.1): whole numbers as fixed ones, and back.
func TestFromIntFloor(t *testing.T) {
	for _, n := range numbers() {
		if got, want := FromInt(n), told(product(taken(n), whole(One))); got != want {
			t.Errorf("FromInt(%d) = %d, want %d", n, got, want)
		}
		if got, want := Floor(n), quotient(t, taken(n), whole(One)).Int64(); got != want {
			t.Errorf("Floor(%d) = %d, want %d", n, got, want)
		}
	}
	for _, c := range []struct{ n, fixed, floor int64 }{
		{0, 0, 0}, {1, One, 0}, {-1, -One, -1}, {32767, 32767 * One, 0}, {32768, upper, 0}, {-32768, lower, -1}, {-32769, lower, -1},
		{One, upper, 1}, {One - 1, upper, 0}, {-One, lower, -1}, {-One - 1, lower, -2}, {-One + 1, lower, -1},
		{upper, upper, 32767}, {upper + 1, upper, 32767}, {lower, lower, -32768}, {lower - 1, lower, -32768},
		{math.MaxInt64, upper, 32767}, {math.MinInt64, lower, -32768}, {1 << 48, upper, 32767}, {-1 << 48, lower, -32768},
	} {
		if got := FromInt(c.n); got != c.fixed {
			t.Errorf("FromInt(%d) = %d, want %d", c.n, got, c.fixed)
		}
		if got := Floor(c.n); got != c.floor {
			t.Errorf("Floor(%d) = %d, want %d", c.n, got, c.floor)
		}
	}
	for n := int64(-32768); n <= 32767; n++ {
		if got := Floor(FromInt(n)); got != n {
			t.Fatalf("Floor(FromInt(%d)) = %d", n, got)
		}
	}
}

// firstOf is the least x whose power has a k of at least k.
func firstOf(k int64) int64 {
	x := new(big.Int).Mul(whole(k), whole(1<<32))
	x.Add(x, whole(94547))
	return x.Div(x, whole(94548)).Int64()
}

// TestExp (P7.2): against the chapter's words in numbers of any size, about 0, about each step of k, and at the edges.
func TestExp(t *testing.T) {
	all := numbers()
	for k := int64(-20); k <= 18; k++ {
		for d := int64(-3); d <= 3; d++ {
			all = append(all, firstOf(k)+d)
		}
	}
	for x := int64(-14 * One); x <= 13*One; x += 251 {
		all = append(all, x)
	}
	for _, x := range all {
		if got, want := Exp(x), power(t, x); got != want {
			t.Errorf("Exp(%d) = %d, want %d", x, got, want)
		}
	}
}

// TestExpTable (P7.2): powers that were reckoned by hand.
func TestExpTable(t *testing.T) {
	for _, c := range []struct{ x, want int64 }{
		{0, One}, // k is 0
		// y is 94548, k is 1, f is 29012: 29012 * 21845 by 65536 is 9670; 29012 * 53361 by 65536 is 23622; 2 * 89158.
		{One, 178316},
		// y is -94548, k is -2, f is 36524: 12174; 36524 * 55865 by 65536 is 31134; 96670 by 4.
		{-One, 24167},
		{1, 65536},                      // y is 1: f times 43691 by 65536 is 0
		{-1, 65534},                     // y is -2, k is -1, f is 65534: 131069 by 2
		{firstOf(15), upper},            // k is 15: 2^31 is one beyond the bound
		{firstOf(15) - 1, 131069 << 14}, // k is 14, f is 65534
		{firstOf(16), upper}, {firstOf(16) - 1, upper}, {firstOf(17), upper},
		{upper, upper}, {upper + 1, upper}, {math.MaxInt64, upper},
		{firstOf(-16), 1}, {firstOf(-16) - 1, 0}, {firstOf(-17), 0}, {firstOf(-18), 0},
		{lower, 0}, {lower - 1, 0}, {math.MinInt64, 0}, {-32 * One, 0}, {-64 * One, 0}, {-1 << 20, 0},
	} {
		if got := Exp(c.x); got != c.want {
			t.Errorf("Exp(%d) = %d, want %d", c.x, got, c.want)
		}
	}
}

// TestExpRises (P7.4): of all numbers about 0 up to both ends of the answers, and of the edges; never below 0.
func TestExpRises(t *testing.T) {
	if got := Exp(0); got != One {
		t.Fatal(got)
	}
	last := int64(0)
	for x := int64(-13 * One); x <= 12*One; x++ {
		n := Exp(x)
		if n < last {
			t.Fatalf("Exp(%d) = %d, and of one less %d", x, n, last)
		}
		last = n
	}
	if last != upper {
		t.Fatal(last)
	}
	last = 0
	for _, x := range numbers() {
		n := Exp(x)
		if n < last || n > upper {
			t.Fatalf("Exp(%d) = %d, behind %d", x, n, last)
		}
		last = n
	}
}

// TestExpIsNear (P7.2): it is what its name says, as near as one percent where the answers are great enough.
func TestExpIsNear(t *testing.T) {
	for x := int64(-4 * One); x < 10*One; x += 997 {
		want := math.Exp(float64(x)/One) * One
		if got := float64(Exp(x)); got < want*0.99-1 || got > want*1.01+1 {
			t.Errorf("Exp(%d) = %v, want about %v", x, got, want)
		}
	}
}

// checkRoot (P7.3, P7.5): s is the greatest number whose square is not above 65536 times x.
func checkRoot(t *testing.T, x int64) {
	t.Helper()
	s := Sqrt(x)
	if x < 0 {
		if s != 0 {
			t.Errorf("Sqrt(%d) = %d, want 0", x, s)
		}
		return
	}
	n := product(taken(x), whole(One))
	next := whole(s + 1)
	if s < 0 || product(whole(s), whole(s)).Cmp(n) > 0 || product(next, next).Cmp(n) <= 0 {
		t.Errorf("Sqrt(%d) = %d", x, s)
	}
}

// TestSqrt (P7.3, P7.5): of edges, of squares and their neighbours, and of ordinary numbers.
func TestSqrt(t *testing.T) {
	for _, x := range numbers() {
		checkRoot(t, x)
	}
	for x := int64(0); x < 70000; x++ {
		checkRoot(t, x)
	}
	// 65536 times x is a square just where x is one.
	for s := int64(0); s*s <= upper; s += 1 + s/1000 {
		if got := Sqrt(s * s); got != s*256 {
			t.Errorf("Sqrt(%d) = %d, want %d", s*s, got, s*256)
		}
		for d := int64(-2); d <= 2; d++ {
			checkRoot(t, s*s+d)
		}
	}
	for i := range uint64(5000) {
		checkRoot(t, some(i)&upper)
	}
}

// TestSqrtTable (P7.3, P7.5): roots that were reckoned by hand.
func TestSqrtTable(t *testing.T) {
	for _, c := range []struct{ x, want int64 }{
		{4 * One, 2 * One}, {One, One}, {0, 0}, {1, 256}, {2, 362}, {3, 443}, {4, 512}, {One - 1, 65535}, {One + 1, 65536}, {2 * One, 92681},
		{upper, 11863283}, {upper + 1, 11863283}, {math.MaxInt64, 11863283}, {-1, 0}, {-One, 0}, {lower, 0}, {lower - 1, 0}, {math.MinInt64, 0},
	} {
		if got := Sqrt(c.x); got != c.want {
			t.Errorf("Sqrt(%d) = %d, want %d", c.x, got, c.want)
		}
	}
}

// TestTurnedAbout (P7.6): sums and products do not hang on which number comes first.
func TestTurnedAbout(t *testing.T) {
	all := numbers()
	for _, a := range all {
		for _, b := range all {
			if Add(a, b) != Add(b, a) {
				t.Fatalf("Add(%d, %d) = %d, turned about %d", a, b, Add(a, b), Add(b, a))
			}
			if Mul(a, b) != Mul(b, a) {
				t.Fatalf("Mul(%d, %d) = %d, turned about %d", a, b, Mul(a, b), Mul(b, a))
			}
		}
	}
}

// TestOneTurnsNothing (P7.7): times One, on either side, and by One, a number is itself, within its bounds.
func TestOneTurnsNothing(t *testing.T) {
	for _, n := range numbers() {
		want := taken(n).Int64()
		if got := Mul(n, One); got != want {
			t.Errorf("Mul(%d, One) = %d", n, got)
		}
		if got := Mul(One, n); got != want {
			t.Errorf("Mul(One, %d) = %d", n, got)
		}
		if got := Div(n, One); got != want {
			t.Errorf("Div(%d, One) = %d", n, got)
		}
	}
	if FromInt(1) != One || Floor(One) != 1 || Sqrt(One) != One || Exp(0) != One {
		t.Error("One is not 1")
	}
}

// TestWithinBounds (P7.1 to P7.3): what is handed in beyond the bounds is as the bound, at every place, and what comes out is never beyond them.
func TestWithinBounds(t *testing.T) {
	for _, a := range edges() {
		w := taken(a).Int64()
		for name, of := range map[string]func(int64) int64{"Within": Within, "Exp": Exp, "Sqrt": Sqrt, "FromInt": FromInt, "Floor": Floor} {
			if got := of(a); got != of(w) || got < lower || got > upper {
				t.Errorf("%s(%d) = %d, of the bound %d", name, a, got, of(w))
			}
		}
		for _, b := range edges() {
			v := taken(b).Int64()
			for name, of := range map[string]func(a, b int64) int64{"Add": Add, "Mul": Mul, "Div": Div} {
				if got := of(a, b); got != of(w, v) || got < lower || got > upper {
					t.Errorf("%s(%d, %d) = %d, of the bounds %d", name, a, b, got, of(w, v))
				}
			}
		}
	}
}
