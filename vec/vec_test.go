package vec

import (
	"math"
	"slices"
	"testing"

	"garboard/fixed"
)

const (
	one   = 65536
	lower = -2147483648
	upper = 2147483647
)

// some is a number that hangs on n alone.
func some(n uint64) int64 {
	h := uint64(0xcbf29ce484222325)
	for range 8 {
		h = (h ^ n&0xff) * 0x100000001b3
		n >>= 8
	}
	return int64(h ^ h>>29)
}

// edges are numbers at both bounds of layer 7, beside and beyond them, at the ends of int64, about 0 and about One.
func edges() []int64 {
	return []int64{
		math.MinInt64, math.MinInt64 + 1, -1 << 48, lower - 1, lower, lower + 1, -3 * one, -one - 1, -one, -one + 1, -2, -1,
		0, 1, 2, one - 1, one, one + 1, 3 * one, upper - 1, upper, upper + 1, 1 << 48, math.MaxInt64 - 1, math.MaxInt64,
	}
}

// ordinary is a vector of n numbers below 0, of 0 and above, each of fewer than bits bits.
func ordinary(n int, seed uint64, bits int) []int64 {
	l := make([]int64, n)
	for i := range l {
		l[i] = some(seed<<32+uint64(i)) >> (64 - bits)
	}
	return l
}

// like is a vector of n numbers that are all the same.
func like(n int, number int64) []int64 {
	return slices.Repeat([]int64{number}, n)
}

// vectors are lists of all kinds that the chapter names.
func vectors() [][]int64 {
	all := [][]int64{nil, {}, edges(), {0}, {0, 0, 0}, {1}, {-1}, {one}, {upper}, {lower}, {math.MaxInt64}, {math.MinInt64}, {lower, lower, lower}, {math.MinInt64, math.MinInt64}, {5, 5, -5, 5}}
	turned := edges()
	slices.Reverse(turned)
	all = append(all, turned)
	for i, n := range []int{2, 3, 7, 16, 64, 4095, 4096, 4097, 5000} {
		all = append(all, ordinary(n, uint64(i), 18), ordinary(n, uint64(20+i), 64), ordinary(n, uint64(40+i), 4), like(n, int64(n)))
	}
	return all
}

// tables are lists of vectors of all kinds that the chapter names.
func tables() [][][]int64 {
	several := func(n, columns, bits int) [][]int64 {
		rows := make([][]int64, n)
		for i := range rows {
			rows[i] = ordinary(columns, uint64(100+i), bits)
		}
		return rows
	}
	return [][][]int64{
		nil, {}, {nil}, {{}}, {nil, {1}}, {{one, 2 * one, 3 * one}}, vectors(), several(16, 16, 18), several(7, 3, 64),
		{{1 << 40, 2, 3}, nil, {4, 5, 6}}, {{one, one, one}, {one, one}, {one, one, one, one}}, {{one}, {one, one}},
		several(4095, 2, 18), several(4096, 2, 18), several(4097, 2, 18), several(4500, 3, 17), several(2, 5000, 20), {edges(), edges()},
	}
}

// counted is the part of a list that counts.
func counted[E any](l []E) []E {
	if len(l) > 4096 {
		return l[:4096]
	}
	return l
}

// asBoth are the parts of two vectors that count.
func asBoth(a, b []int64) ([]int64, []int64) {
	a, b = counted(a), counted(b)
	n := min(len(a), len(b))
	return a[:n], b[:n]
}

func wantDot(a, b []int64) int64 {
	a, b = asBoth(a, b)
	var sum int64
	for i := range a {
		sum = fixed.Add(sum, fixed.Mul(a[i], b[i]))
	}
	return sum
}

func wantAdd(a, b []int64) []int64 {
	a, b = asBoth(a, b)
	var l []int64
	for i := range a {
		l = append(l, fixed.Add(a[i], b[i]))
	}
	return l
}

func wantScale(a []int64, by int64) []int64 {
	var l []int64
	for _, n := range counted(a) {
		l = append(l, fixed.Mul(n, by))
	}
	return l
}

func wantMul(rows [][]int64, a []int64) []int64 {
	var l []int64
	for _, row := range counted(rows) {
		l = append(l, wantDot(row, a))
	}
	return l
}

func wantRelu(a []int64) []int64 {
	var l []int64
	for _, n := range counted(a) {
		switch {
		case n < 0:
			l = append(l, 0)
		case n > upper:
			l = append(l, upper)
		default:
			l = append(l, n)
		}
	}
	return l
}

func wantNorm(a []int64) []int64 {
	a = counted(a)
	m := fixed.Add(fixed.Div(wantDot(a, a), fixed.FromInt(int64(len(a)))), 1)
	var l []int64
	for _, n := range a {
		l = append(l, fixed.Div(n, fixed.Sqrt(m)))
	}
	return l
}

func wantSoft(a []int64) []int64 {
	a = counted(a)
	if len(a) == 0 {
		return nil
	}
	t := fixed.Within(slices.Max(a))
	var l []int64
	var sum int64
	for _, n := range a {
		p := fixed.Exp(fixed.Add(n, -t))
		l = append(l, p)
		sum = fixed.Add(sum, p)
	}
	for i := range l {
		l[i] = fixed.Div(l[i], sum)
	}
	return l
}

func wantTop(a []int64, k int) []int {
	a = counted(a)
	var l []int
	for i := range a {
		l = append(l, i)
	}
	// Stable: of like ones the first one stays first.
	slices.SortStableFunc(l, func(i, j int) int { return int(fixed.Within(a[j]) - fixed.Within(a[i])) })
	return l[:max(0, min(k, len(l)))]
}

func wantMix(weights []int64, rows [][]int64) []int64 {
	if len(rows) == 0 {
		return nil
	}
	weights, rows = counted(weights), counted(rows)
	mixed := like(len(counted(rows[0])), 0)
	for i := 0; i < len(weights) && i < len(rows); i++ {
		mixed = wantAdd(mixed, wantScale(rows[i], weights[i]))
	}
	return mixed
}

// brief is the beginning of a list that is too long to be shown.
func brief[E any](l []E) []E { return l[:min(len(l), 12)] }

// TestByWords (P8.1, P8.2): what is made of one vector, of all kinds, is what the chapter's words tell.
func TestByWords(t *testing.T) {
	for _, a := range vectors() {
		if got, want := Relu(a), wantRelu(a); !slices.Equal(got, want) {
			t.Errorf("Relu(%v, %d in all) = %v, want %v", brief(a), len(a), brief(got), brief(want))
		}
		if got, want := Norm(a), wantNorm(a); !slices.Equal(got, want) {
			t.Errorf("Norm(%v, %d in all) = %v, want %v", brief(a), len(a), brief(got), brief(want))
		}
		if got, want := Soft(a), wantSoft(a); !slices.Equal(got, want) {
			t.Errorf("Soft(%v, %d in all) = %v, want %v", brief(a), len(a), brief(got), brief(want))
		}
		for _, by := range append(edges(), 98304, -98304, 12345) {
			if got, want := Scale(a, by), wantScale(a, by); !slices.Equal(got, want) {
				t.Errorf("Scale(%v, %d in all, %d) = %v, want %v", brief(a), len(a), by, brief(got), brief(want))
			}
		}
	}
}

// TestByWordsOfTwo (P8.1): of all pairs of vectors, those of unlike lengths among them.
func TestByWordsOfTwo(t *testing.T) {
	for _, a := range vectors() {
		for _, b := range vectors() {
			if got, want := Dot(a, b), wantDot(a, b); got != want {
				t.Errorf("Dot(%v, %v) = %d, want %d; %d and %d in all", brief(a), brief(b), got, want, len(a), len(b))
			}
			if got, want := Add(a, b), wantAdd(a, b); !slices.Equal(got, want) {
				t.Errorf("Add(%v, %v) = %v, want %v; %d and %d in all", brief(a), brief(b), brief(got), brief(want), len(a), len(b))
			}
		}
	}
}

// TestByWordsOfTables (P8.1, P8.2): of all tables with all vectors.
func TestByWordsOfTables(t *testing.T) {
	for i, rows := range tables() {
		for _, a := range vectors() {
			if got, want := Mul(rows, a), wantMul(rows, a); !slices.Equal(got, want) {
				t.Errorf("Mul(table %d, %v, %d in all) = %v, want %v", i, brief(a), len(a), brief(got), brief(want))
			}
			if got, want := Mix(a, rows), wantMix(a, rows); !slices.Equal(got, want) {
				t.Errorf("Mix(%v, %d in all, table %d) = %v, want %v", brief(a), len(a), i, brief(got), brief(want))
			}
		}
	}
}

// TestDotTable (P8.1): products that were reckoned by hand; a bound that is met on the way counts.
func TestDotTable(t *testing.T) {
	for _, c := range []struct {
		a, b []int64
		want int64
	}{
		{nil, nil, 0}, {nil, []int64{1}, 0}, {[]int64{1}, []int64{}, 0},
		{[]int64{one, 2 * one}, []int64{3 * one, 4 * one}, 11 * one},
		{[]int64{one, 2 * one}, []int64{3 * one, 4 * one, 9 * one}, 11 * one},
		{[]int64{one, 2 * one, 9 * one}, []int64{3 * one, 4 * one}, 11 * one},
		{[]int64{1, 1}, []int64{32768, 32768}, 0},    // each is half a number, and goes down alone
		{[]int64{-1, -1}, []int64{32768, 32768}, -2}, // each goes down to -1
		{[]int64{one, one, one}, []int64{upper, upper, -5}, upper - 5},
		{[]int64{one, one, one}, []int64{-5, upper, upper}, upper},
		{[]int64{one, one, one}, []int64{lower, lower, 5}, lower + 5},
		{[]int64{one, one, one}, []int64{5, lower, lower}, lower},
		{[]int64{one, one}, []int64{math.MaxInt64, math.MinInt64}, -1},
		{[]int64{math.MinInt64, math.MinInt64}, []int64{math.MinInt64, one}, -1}, // the upper bound and the lower one
		{[]int64{one, -one}, []int64{lower, lower}, -1},                          // the second product is the upper bound
	} {
		if got := Dot(c.a, c.b); got != c.want {
			t.Errorf("Dot(%v, %v) = %d, want %d", c.a, c.b, got, c.want)
		}
	}
}

// TestPlaceByPlaceTable (P8.1): Add, Scale, Mul and Relu, reckoned by hand.
func TestPlaceByPlaceTable(t *testing.T) {
	for _, c := range []struct {
		name      string
		got, want []int64
	}{
		{"a sum", Add([]int64{1, 2, 3}, []int64{10, 20, 30}), []int64{11, 22, 33}},
		{"a sum of fewer", Add([]int64{1, 2, 3}, []int64{10}), []int64{11}},
		{"a sum of more", Add([]int64{1}, []int64{10, 20}), []int64{11}},
		{"a sum with none", Add([]int64{1}, nil), nil},
		{"a sum of none", Add(nil, []int64{1}), nil},
		{"a sum at the bounds", Add([]int64{upper, lower, upper, math.MaxInt64, math.MinInt64}, []int64{1, -1, lower, -1, math.MinInt64}), []int64{upper, lower, -1, upper - 1, lower}},
		{"one scaled", Scale([]int64{one, -one, 3, -3}, one/2), []int64{one / 2, -one / 2, 1, -2}},
		{"one scaled beyond", Scale([]int64{upper, lower, math.MaxInt64, 2}, math.MaxInt64), []int64{upper, lower, upper, 65535}},
		{"one scaled by 0", Scale([]int64{upper, lower, math.MinInt64}, 0), []int64{0, 0, 0}},
		{"one scaled by One", Scale([]int64{upper + 1, lower - 1, 7}, one), []int64{upper, lower, 7}},
		{"a table", Mul([][]int64{{one, 2 * one}, {}, {3 * one}, {one, one, one}}, []int64{5 * one, 7 * one}), []int64{19 * one, 0, 15 * one, 12 * one}},
		{"a table with none", Mul([][]int64{{one}, nil, {one, one}}, nil), []int64{0, 0, 0}},
		{"no table", Mul(nil, []int64{one}), nil},
		{"no less than 0", Relu([]int64{3, 0, -1, -one, lower, upper, upper + 1, math.MinInt64, math.MaxInt64}), []int64{3, 0, 0, 0, 0, upper, upper, 0, upper}},
	} {
		if !slices.Equal(c.got, c.want) {
			t.Errorf("%s: %v, want %v", c.name, c.got, c.want)
		}
	}
}

// TestNormTable (P8.2): lengths that were reckoned by hand.
func TestNormTable(t *testing.T) {
	for _, c := range []struct{ a, want []int64 }{
		{nil, nil},
		{[]int64{0}, []int64{0}},
		{[]int64{0, 0, 0}, []int64{0, 0, 0}},
		{[]int64{one}, []int64{one}},       // m is 65537, its root 65536
		{[]int64{-2 * one}, []int64{-one}}, // m is 4 One and 1, its root 131072
		{[]int64{1}, []int64{256}},         // m is 1, its root 256
		{[]int64{-1, 0}, []int64{-256, 0}},
		{[]int64{3 * one, 4 * one}, []int64{55609, 74145}}, // m is 25 One by 2 and 1: 819201; its root 231704
		// The Dot is the upper bound, and stays that with 1 more: its root is 11863283.
		{[]int64{upper}, []int64{11863283}}, {[]int64{lower}, []int64{-11863284}},
		{[]int64{math.MaxInt64}, []int64{11863283}}, {[]int64{math.MinInt64}, []int64{-11863284}},
	} {
		if got := Norm(c.a); !slices.Equal(got, c.want) {
			t.Errorf("Norm(%v) = %v, want %v", c.a, got, c.want)
		}
	}
}

// TestNormCounts (P8.2): how many there are is told of those that count.
func TestNormCounts(t *testing.T) {
	for _, n := range []int{4095, 4096, 4097, 8192} {
		want := like(min(n, 4096), 256) // m is 0, and 1 more
		if got := Norm(like(n, 1)); !slices.Equal(got, want) {
			t.Errorf("%d ones: %v, %d in all", n, brief(got), len(got))
		}
		want = like(min(n, 4096), one) // 4096 quarters are 1024 One, of which each has a quarter
		if got := Norm(like(n, one/2)); !slices.Equal(got, want) {
			t.Errorf("%d halves: %v, %d in all", n, brief(got), len(got))
		}
	}
}

// TestSoftTable (P8.2): weights that were reckoned by hand.
func TestSoftTable(t *testing.T) {
	for _, c := range []struct{ a, want []int64 }{
		{nil, nil},
		{[]int64{0}, []int64{one}}, {[]int64{upper}, []int64{one}}, {[]int64{math.MaxInt64}, []int64{one}}, {[]int64{-7 * one}, []int64{one}},
		{[]int64{5, 5}, []int64{32768, 32768}},
		{[]int64{-9, -9, -9}, []int64{21845, 21845, 21845}},
		// The powers are 65536 and 24167 (layer 7), 89703 in all.
		{[]int64{one, 0}, []int64{47879, 17656}}, {[]int64{0, one}, []int64{17656, 47879}},
		{[]int64{-2 * one, -3 * one}, []int64{47879, 17656}},
		// The lower bound's opposite is taken within the bounds: the power is that of -1.
		{[]int64{lower}, []int64{one}}, {[]int64{lower, lower}, []int64{32768, 32768}}, {[]int64{math.MinInt64, lower}, []int64{32768, 32768}}, {[]int64{math.MinInt64}, []int64{one}},
		// Beyond the bounds all are like the bound, and from there on nothing is left of what is far away.
		{[]int64{upper, upper + 1, math.MaxInt64, 0, lower, math.MinInt64}, []int64{21845, 21845, 21845, 0, 0, 0}},
	} {
		if got := Soft(c.a); !slices.Equal(got, c.want) {
			t.Errorf("Soft(%v) = %v, want %v", c.a, got, c.want)
		}
	}
}

// TestSoftCounts (P8.2): the 4097th number is neither the greatest one nor a part of the sum.
func TestSoftCounts(t *testing.T) {
	a := append(like(4096, 0), upper, upper)
	if got := Soft(a); !slices.Equal(got, like(4096, 16)) {
		t.Errorf("%v, %d in all", brief(got), len(got))
	}
	if got := Soft(like(5000, 3)); !slices.Equal(got, like(4096, 16)) {
		t.Errorf("%v, %d in all", brief(got), len(got))
	}
}

// TestSoftWeighs (P8.4): the weights are from 0 to One, and none is above that of a greater number.
func TestSoftWeighs(t *testing.T) {
	for _, a := range vectors() {
		got := Soft(a)
		places := wantTop(a, len(a))
		if len(got) != len(places) {
			t.Fatalf("%d weights of %d numbers", len(got), len(a))
		}
		last := int64(one)
		for i, at := range places {
			if got[at] < 0 || got[at] > last {
				t.Fatalf("Soft(%v, %d in all): %d at %d, and %d ahead", brief(a), len(a), got[at], at, last)
			}
			if i > 0 && fixed.Within(a[at]) == fixed.Within(a[places[i-1]]) && got[at] != last {
				t.Fatalf("Soft(%v, %d in all): like numbers weigh %d and %d", brief(a), len(a), got[at], last)
			}
			last = got[at]
		}
	}
	// Numbers that are far enough from each other weigh more, too, not as much.
	if got := Soft([]int64{0, 2 * one, one}); got[0] >= got[2] || got[2] >= got[1] {
		t.Error(got)
	}
}

// TestTopTable (P8.2): with the chapter's example.
func TestTopTable(t *testing.T) {
	for _, c := range []struct {
		a    []int64
		k    int
		want []int
	}{
		{[]int64{3, 9, 9, 1}, 2, []int{1, 2}}, // the example
		{[]int64{3, 9, 9, 1}, 1, []int{1}}, {[]int64{3, 9, 9, 1}, 3, []int{1, 2, 0}}, {[]int64{3, 9, 9, 1}, 4, []int{1, 2, 0, 3}},
		{[]int64{3, 9, 9, 1}, 5, []int{1, 2, 0, 3}}, {[]int64{3, 9, 9, 1}, math.MaxInt, []int{1, 2, 0, 3}},
		{[]int64{3, 9, 9, 1}, 0, nil}, {[]int64{3, 9, 9, 1}, -1, nil}, {[]int64{3, 9, 9, 1}, math.MinInt, nil},
		{nil, 2, nil}, {[]int64{}, 2, nil}, {nil, 0, nil}, {nil, -1, nil}, {nil, math.MaxInt, nil},
		{[]int64{-1, -2, -3}, 2, []int{0, 1}}, {[]int64{-3, -2, -1}, 2, []int{2, 1}},
		{[]int64{7, 7, 7, 7, 7}, 3, []int{0, 1, 2}}, {[]int64{7, 8, 7, 8, 7}, 3, []int{1, 3, 0}}, {[]int64{7, 8, 7, 8, 7}, 4, []int{1, 3, 0, 2}},
		{[]int64{lower, upper, 0}, 3, []int{1, 2, 0}},
		// Beyond the bounds all are like the bound.
		{[]int64{0, upper, math.MaxInt64, upper + 1}, 2, []int{1, 2}},
		{[]int64{lower, math.MinInt64, lower - 1, lower + 1}, 3, []int{3, 0, 1}},
		{[]int64{math.MinInt64, math.MaxInt64}, 2, []int{1, 0}},
	} {
		if got := Top(c.a, c.k); !slices.Equal(got, c.want) {
			t.Errorf("Top(%v, %d) = %v, want %v", c.a, c.k, got, c.want)
		}
	}
}

// TestTopByWords (P8.2): of all vectors, and all kinds of k.
func TestTopByWords(t *testing.T) {
	for _, a := range vectors() {
		for _, k := range []int{math.MinInt, -1, 0, 1, 2, 3, 5, 16, len(a) / 2, len(a) - 1, len(a), len(a) + 1, 4095, 4096, 4097, math.MaxInt} {
			if got, want := Top(a, k), wantTop(a, k); !slices.Equal(got, want) {
				t.Errorf("Top(%v, %d) = %v, want %v; %d in all", brief(a), k, brief(got), brief(want), len(a))
			}
		}
	}
}

// TestTopOfAllOrders (P8.2): all vectors of up to six numbers from 0 to 2.
func TestTopOfAllOrders(t *testing.T) {
	for n := range 7 {
		all := 1
		for range n {
			all *= 3
		}
		for code := range all {
			a := make([]int64, n)
			for i := range a {
				a[i] = int64(code % 3)
				code /= 3
			}
			for k := range n + 2 {
				if got, want := Top(a, k), wantTop(a, k); !slices.Equal(got, want) {
					t.Fatalf("Top(%v, %d) = %v, want %v", a, k, got, want)
				}
			}
		}
	}
}

// TestTopHasTheGreatest (P8.5): no other one is greater than the last one, and each place is told once.
func TestTopHasTheGreatest(t *testing.T) {
	for _, a := range vectors() {
		for _, k := range []int{1, 2, 7, 100} {
			got := Top(a, k)
			if len(got) != min(k, len(a)) {
				t.Fatalf("%d places of %d", len(got), len(a))
			}
			if len(got) == 0 {
				continue
			}
			last := fixed.Within(a[got[len(got)-1]])
			for at, n := range counted(a) {
				if fixed.Within(n) > last && !slices.Contains(got, at) {
					t.Fatalf("Top(%v, %d), %d in all: %d at %d is above %d", brief(a), k, len(a), n, at, last)
				}
			}
			slices.Sort(got)
			if len(slices.Compact(got)) != min(k, len(a)) {
				t.Fatalf("a place comes twice: %v", got)
			}
		}
	}
}

// TestTopCounts (P8.2): a number behind the 4096th is let go, however great.
func TestTopCounts(t *testing.T) {
	a := append(like(4096, 0), upper)
	a[4095] = 1
	if got := Top(a, 2); !slices.Equal(got, []int{4095, 0}) {
		t.Error(got)
	}
	if got := Top(a, 5000); len(got) != 4096 || got[0] != 4095 || got[4095] != 4094 {
		t.Error(len(got))
	}
}

// TestMixTable (P8.2): mixtures that were reckoned by hand.
func TestMixTable(t *testing.T) {
	for _, c := range []struct {
		name    string
		weights []int64
		rows    [][]int64
		want    []int64
	}{
		{"nothing", nil, nil, nil},
		{"no row", []int64{one}, nil, nil},
		{"no weight", nil, [][]int64{{one, 2}, {3}}, []int64{0, 0}},
		{"two rows", []int64{one, 2 * one}, [][]int64{{1, 2, 3}, {10, 20, 30}}, []int64{21, 42, 63}},
		{"fewer weights", []int64{one}, [][]int64{{1, 2, 3}, {10, 20, 30}}, []int64{1, 2, 3}},
		{"more weights", []int64{one, 2 * one, 9 * one}, [][]int64{{1, 2, 3}, {10, 20, 30}}, []int64{21, 42, 63}},
		{"a longer row behind", []int64{one, one}, [][]int64{{1, 2}, {10, 20, 30}}, []int64{11, 22}},
		{"a shorter row behind", []int64{one, one, one}, [][]int64{{1, 2, 3}, {10}, {100, 200, 300}}, []int64{111}},
		{"a shorter row without a weight", []int64{one}, [][]int64{{1, 2, 3}, {10}}, []int64{1, 2, 3}},
		{"an empty row first", []int64{one, one}, [][]int64{{}, {10}}, nil},
		{"an empty row behind", []int64{one, one}, [][]int64{{1, 2}, nil}, nil},
		{"each product goes down alone", []int64{32768, 32768}, [][]int64{{1, -1}, {1, -1}}, []int64{0, -2}},
		{"a bound on the way", []int64{one, one, one}, [][]int64{{upper, lower}, {1, -1}, {-5, 5}}, []int64{upper - 5, lower + 5}},
		{"beyond the bounds", []int64{math.MaxInt64, math.MinInt64}, [][]int64{{one, math.MinInt64, 0}, {one, math.MinInt64, math.MinInt64}}, []int64{-1, -1, upper}},
	} {
		if got := Mix(c.weights, c.rows); !slices.Equal(got, c.want) {
			t.Errorf("%s: %v, want %v", c.name, got, c.want)
		}
	}
}

// TestMoreAreLetGo (P8.1, P8.2): numbers and rows behind the 4096th play no part, at every place at which they are handed in.
func TestMoreAreLetGo(t *testing.T) {
	long := like(4097, one)
	if got := Dot(long, long); got != 4096*one {
		t.Error("Dot", got)
	}
	for name, l := range map[string][]int64{
		"Add": Add(long, long), "Scale": Scale(long, one), "Relu": Relu(long), "Norm": Norm(long), "Soft": Soft(long),
		"Mix": Mix([]int64{one}, [][]int64{long}), "Mix without weights": Mix(nil, [][]int64{long}), "Mul": Mul(slices.Repeat([][]int64{{one}}, 4097), long),
	} {
		if len(l) != 4096 {
			t.Errorf("%s: %d numbers", name, len(l))
		}
	}
	if got := Mul([][]int64{long, long[:4096]}, long); !slices.Equal(got, like(2, 4096*one)) {
		t.Error("Mul", got)
	}
	if got := Mix(long, slices.Repeat([][]int64{{1, 2}}, 4097)); !slices.Equal(got, []int64{4096, 8192}) {
		t.Error("Mix", got)
	}
}

// TestTurnedAbout (P8.3): which vector comes first plays no part.
func TestTurnedAbout(t *testing.T) {
	for _, a := range vectors() {
		for _, b := range vectors() {
			if Dot(a, b) != Dot(b, a) {
				t.Fatalf("Dot(%v, %v) = %d, turned about %d", brief(a), brief(b), Dot(a, b), Dot(b, a))
			}
			if !slices.Equal(Add(a, b), Add(b, a)) {
				t.Fatalf("Add(%v, %v) = %v, turned about %v", brief(a), brief(b), brief(Add(a, b)), brief(Add(b, a)))
			}
		}
	}
}

// calls are all functions, of two vectors and a table of the same two; numbers and places are told as lists.
func calls() map[string]func(a, b []int64, rows [][]int64) []int64 {
	return map[string]func(a, b []int64, rows [][]int64) []int64{
		"Dot":   func(a, b []int64, _ [][]int64) []int64 { return []int64{Dot(a, b)} },
		"Add":   func(a, b []int64, _ [][]int64) []int64 { return Add(a, b) },
		"Scale": func(a, _ []int64, _ [][]int64) []int64 { return Scale(a, one) },
		"Mul":   func(a, _ []int64, rows [][]int64) []int64 { return Mul(rows, a) },
		"Norm":  func(a, _ []int64, _ [][]int64) []int64 { return Norm(a) },
		"Soft":  func(a, _ []int64, _ [][]int64) []int64 { return Soft(a) },
		"Relu":  func(a, _ []int64, _ [][]int64) []int64 { return Relu(a) },
		"Mix":   func(a, _ []int64, rows [][]int64) []int64 { return Mix(a, rows) },
		"Top": func(a, _ []int64, _ [][]int64) []int64 {
			var l []int64
			for _, at := range Top(a, 3) {
				l = append(l, int64(at))
			}
			return l
		},
	}
}

// roomy is a copy of a list that has room behind it, and what lies in that room.
func roomy(a []int64) []int64 {
	l := append(slices.Clone(a), 77, 78, 79)
	return l[:len(a)]
}

// TestHandedInStays (P8.6): neither a call, nor who writes into its answer, turns a list that was handed in, or what lies behind it; and the answer comes again.
func TestHandedInStays(t *testing.T) {
	for name, call := range calls() {
		for _, v := range vectors() {
			a, b := roomy(v), roomy(v)
			slices.Reverse(b)
			wasA, wasB := slices.Clone(a[:len(a)+3]), slices.Clone(b[:len(b)+3])
			rows := append([][]int64{a, b, a}, nil, []int64{1})
			got := call(a, b, rows[:3])
			answer := slices.Clone(got)
			for i := range got {
				got[i] = -12321
			}
			_ = append(got, 4) // into room behind the answer, if there is any
			if !slices.Equal(a[:len(a)+3], wasA) || !slices.Equal(b[:len(b)+3], wasB) {
				t.Fatalf("%s(%v, %d in all) turned what it was handed", name, brief(v), len(v))
			}
			if len(rows[0]) != len(v) || len(rows[1]) != len(v) || len(rows[2]) != len(v) || rows[3] != nil || !slices.Equal(rows[4], []int64{1}) {
				t.Fatalf("%s(%v, %d in all) turned the table", name, brief(v), len(v))
			}
			if again := call(a, b, rows[:3]); !slices.Equal(again, answer) {
				t.Fatalf("%s(%v, %d in all) = %v, before %v", name, brief(v), len(v), brief(again), brief(answer))
			}
		}
	}
}

// TestSameListTwice (P8.6): a list may be handed in at several places at once.
func TestSameListTwice(t *testing.T) {
	a := []int64{one, 2 * one, -3 * one}
	if got := Add(a, a); !slices.Equal(got, []int64{2 * one, 4 * one, -6 * one}) {
		t.Error(got)
	}
	if got := Mix(a, [][]int64{a, a, a}); !slices.Equal(got, []int64{0, 0, 0}) {
		t.Error(got)
	}
	if got := Mul([][]int64{a, a}, a); !slices.Equal(got, []int64{14 * one, 14 * one}) {
		t.Error(got)
	}
	if !slices.Equal(a, []int64{one, 2 * one, -3 * one}) {
		t.Error(a)
	}
}

// TestNothingAndEmpty (R6): no list and an empty one are the same at every place.
func TestNothingAndEmpty(t *testing.T) {
	some := []int64{3, one, -one}
	for name, call := range calls() {
		for _, rows := range [][][]int64{nil, {}, {nil}, {{}}, {some, nil}, {some, {}}} {
			for _, b := range [][]int64{nil, {}, some} {
				none, empty := call(nil, b, rows), call([]int64{}, b, rows)
				if !slices.Equal(none, empty) {
					t.Errorf("%s: %v of no list, %v of an empty one", name, none, empty)
				}
			}
			if none, empty := call(some, nil, rows), call(some, []int64{}, rows); !slices.Equal(none, empty) {
				t.Errorf("%s: %v with no list, %v with an empty one", name, none, empty)
			}
		}
	}
	for name, n := range map[string]int{
		"Add": len(Add(nil, nil)), "Scale": len(Scale(nil, one)), "Mul": len(Mul(nil, nil)), "Norm": len(Norm(nil)), "Soft": len(Soft(nil)),
		"Relu": len(Relu(nil)), "Top": len(Top(nil, 1)), "Mix": len(Mix(nil, nil)), "Mix of no row's numbers": len(Mix(some, [][]int64{nil, some})),
	} {
		if n != 0 {
			t.Errorf("%s of none: %d", name, n)
		}
	}
}
