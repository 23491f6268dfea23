package sample

import (
	"cmp"
	"math"
	"slices"
	"testing"

	"garboard/api"
	"garboard/fixed"
	"garboard/model"
	"garboard/rand"
)

const (
	one   = 65536
	upper = 1<<31 - 1 // layer 7's bounds
	lower = -1 << 31
	most  = 4096 // how many numbers of a vector count
)

// modelOf is a configuration's model.
func modelOf(t *testing.T, c api.Config) *model.Model {
	t.Helper()
	m, err := model.New(c)
	if err != api.OK {
		t.Fatal(err)
	}
	return m
}

// models are ordinary ones, and those with the least and the greatest fields.
func models(t *testing.T) []*model.Model {
	t.Helper()
	var all []*model.Model
	for _, c := range []api.Config{
		{Seed: 0, Vocab: 2, Dim: 1, Layers: 1, Top: 1, Heat: 0},
		{Seed: 1, Vocab: 2, Dim: 1, Layers: 4, Top: 2, Heat: 8},
		{Seed: 3, Vocab: 5, Dim: 2, Layers: 1, Top: 5, Heat: 1},
		{Seed: 4, Vocab: 9, Dim: 5, Layers: 2, Top: 3, Heat: 4},
		{Seed: 5, Vocab: 64, Dim: 16, Layers: 1, Top: 64, Heat: 8},
		{Seed: 6, Vocab: 64, Dim: 8, Layers: 3, Top: 8, Heat: 2},
		{Seed: 7, Vocab: 33, Dim: 7, Layers: 3, Top: 1, Heat: 8},
		{Seed: math.MaxUint64, Vocab: 64, Dim: 3, Layers: 4, Top: 64, Heat: 0},
	} {
		all = append(all, modelOf(t, c))
	}
	return all
}

// noModels are models that are none.
func noModels() map[string]*model.Model {
	refused, _ := model.New(api.Config{Seed: 1, Vocab: 1, Dim: 1, Layers: 1, Top: 1})
	return map[string]*model.Model{"nil": nil, "new": new(model.Model), "refused": refused}
}

// some is a number that hangs on n alone.
func some(n uint64) int64 {
	h := uint64(0xcbf29ce484222325)
	for range 8 {
		h = (h ^ n&0xff) * 0x100000001b3
		n >>= 8
	}
	return int64(h ^ h>>29)
}

// ordinary are n numbers below 0, of 0 and above, each of fewer than bits bits.
func ordinary(n int, seed uint64, bits int) []int64 {
	l := make([]int64, n)
	for i := range l {
		l[i] = some(seed<<32+uint64(i)) >> (64 - bits)
	}
	return l
}

// vectors are of all lengths about a Dim: none, fewer, as many and more; of ordinary numbers, noughts, and numbers at the bounds and beyond.
func vectors(dim int) [][]int64 {
	all := [][]int64{nil, {}, {0}, {1}, {-one}, {math.MinInt64}, {math.MaxInt64}, {math.MaxInt64, math.MinInt64, 0, upper + 1, lower, upper}}
	for _, n := range []int{dim - 1, dim, dim + 1, 2*dim + 3, 64} {
		all = append(all, make([]int64, n), ordinary(n, uint64(n), 18), ordinary(n, uint64(n+1), 30), ordinary(n, uint64(n+2), 64))
	}
	return append(all, ordinary(most, 5, 17), ordinary(most+1, 6, 17), append(make([]int64, most), math.MaxInt64))
}

// markLists are lists of marks: one, few and many; like ones at the first, in the middle and at the last place; at the bounds and beyond.
func markLists() [][]int64 {
	all := [][]int64{
		{0}, {-1}, {math.MinInt64}, {math.MaxInt64},
		{3, 9, 9}, {9, 9, 3}, {9, 3, 9}, {9, 9, 9}, {3, 9, 9, 3}, {9, 1, 2, 3, 9}, {1, 9, 2, 9, 3}, {-5, -5}, {-5, -4, -4, -6},
		{2 * one, one, 0, -one, 2 * one}, {-one, 0, one, 0, one}, {0, 0, 0, 0, 0, 0},
		{upper, upper + 1, math.MaxInt64}, {math.MaxInt64, upper, 0}, {0, upper - 1, upper, upper + 1, 1 << 40},
		{lower, lower - 1, math.MinInt64}, {math.MinInt64, lower, lower + 1}, {math.MinInt64, -one, math.MaxInt64, one, 1 << 62},
		// Marks that differ, but not any more as they are multiplied.
		{upper / 2, upper / 3, upper - 1, upper / 4, upper / 5}, {lower / 2, lower / 3, lower + 1},
	}
	for n := 1; n <= 65; n += 4 {
		seed := uint64(n)
		all = append(all, ordinary(n, seed, 16), ordinary(n, seed+100, 18), ordinary(n, seed+200, 3), ordinary(n, seed+300, 33), ordinary(n, seed+400, 64))
	}
	return append(all, ordinary(most, 500, 17), append(ordinary(most, 501, 17), math.MaxInt64, 5*one))
}

// tops are numbers of marks of which one is drawn, about how many there are.
func tops(n int) []int {
	return []int{math.MinInt, -1, 0, 1, 2, 3, n - 1, n, n + 1, 2*n + 7, most + 1, math.MaxInt}
}

// coldHeats are those without heat.
var coldHeats = []int{math.MinInt, -1 << 32, -8, -1, 0}

// heats are those with heat.
var heats = []int{1, 2, 3, 7, 8, 9, 100, 32767, 32768, 1 << 32, math.MaxInt}

// numbers are seeds, or places.
var numbers = []uint64{0, 1, 2, 7, 1 << 32, math.MaxUint64 - 1, math.MaxUint64}

// within is a number in layer 7's bounds.
func within(n int64) int64 { return max(lower, min(n, upper)) }

// wantDot is layer 8's, as its words say; so are those behind it.
func wantDot(a, b []int64) int64 {
	var sum int64
	for i := 0; i < len(a) && i < len(b) && i < most; i++ {
		sum = fixed.Add(sum, fixed.Mul(a[i], b[i]))
	}
	return sum
}

func wantNorm(a []int64) []int64 {
	a = a[:min(len(a), most)]
	mean := fixed.Div(wantDot(a, a), fixed.FromInt(int64(len(a))))
	root := fixed.Sqrt(fixed.Add(mean, 1))
	var l []int64
	for _, n := range a {
		l = append(l, fixed.Div(n, root))
	}
	return l
}

func wantSoft(a []int64) []int64 {
	greatest := slices.Max(a)
	var powers, weights []int64
	var sum int64
	for _, n := range a {
		power := fixed.Exp(fixed.Add(n, -greatest))
		powers = append(powers, power)
		sum = fixed.Add(sum, power)
	}
	for _, power := range powers {
		weights = append(weights, fixed.Div(power, sum))
	}
	return weights
}

// wantTop are the tokens of the greatest marks, in order: all of them sorted, and cut.
func wantTop(marks []int64, top int) []int {
	var tokens []int
	for token := range marks[:min(len(marks), most)] {
		tokens = append(tokens, token)
	}
	slices.SortStableFunc(tokens, func(a, b int) int { return cmp.Compare(within(marks[b]), within(marks[a])) })
	return tokens[:min(len(tokens), max(top, 1))]
}

// wantMarks are a vector's, as the chapter's words say.
func wantMarks(m *model.Model, x []int64) []int64 {
	var marks []int64
	for token := range m.Config().Vocab {
		marks = append(marks, wantDot(wantNorm(x), m.Token(token)))
	}
	return marks
}

// wantBest is the likeliest token.
func wantBest(marks []int64) int {
	best := -1
	for token, mark := range marks[:min(len(marks), most)] {
		if best < 0 || within(mark) > within(marks[best]) {
			best = token
		}
	}
	return best
}

// wantWeights are the tokens of which one is drawn, and how much each weighs.
func wantWeights(marks []int64, top, heat int) (tokens []int, weights []int64) {
	tokens = wantTop(marks, top)
	var counted []int64
	for _, token := range tokens {
		counted = append(counted, fixed.Div(fixed.Mul(marks[token], 4*one), fixed.FromInt(int64(heat))))
	}
	return tokens, wantSoft(counted)
}

// wantDrawn is the token that the draw comes to.
func wantDrawn(tokens []int, weights []int64, seed, place uint64) int {
	var sum int64
	for _, weight := range weights {
		sum += weight
	}
	left := int64(rand.Below(seed, place, uint64(sum)))
	for at, weight := range weights {
		if left < weight {
			return tokens[at]
		}
		left -= weight
	}
	return -2
}

// brief is the beginning of a list that is too long to be shown.
func brief[E any](l []E) []E { return l[:min(len(l), 6)] }

// checkDraw tells where another token is drawn than is wanted.
func checkDraw(t *testing.T, marks []int64, top, heat int, seed, place uint64, want int) {
	t.Helper()
	if got := Draw(marks, top, heat, seed, place); got != want {
		t.Fatalf("Draw(%v (%d), %d, %d, %d, %d): %d, want %d", brief(marks), len(marks), top, heat, seed, place, got, want)
	}
}

// TestMarksByWords (P11.1): of all vectors the marks are what the chapter's words tell, one of each token.
func TestMarksByWords(t *testing.T) {
	for _, m := range models(t) {
		c := m.Config()
		for _, x := range vectors(c.Dim) {
			got, want := Marks(m, x), wantMarks(m, x)
			if len(got) != c.Vocab || !slices.Equal(got, want) {
				t.Fatalf("%+v: Marks(%v (%d)): %v (%d), want %v", c, brief(x), len(x), brief(got), len(got), brief(want))
			}
		}
	}
}

// TestMarksReckoned (P11.1): what was reckoned elsewhere, with whole numbers of any size.
func TestMarksReckoned(t *testing.T) {
	least := modelOf(t, api.Config{Seed: 0, Vocab: 2, Dim: 1, Layers: 1, Top: 1})
	two := modelOf(t, api.Config{Seed: 3, Vocab: 5, Dim: 2, Layers: 1, Top: 5})
	three := modelOf(t, api.Config{Seed: math.MaxUint64, Vocab: 4, Dim: 3, Layers: 1, Top: 1})
	for _, c := range []struct {
		m       *model.Model
		x, want []int64
	}{
		{two, two.Token(1), []int64{12450, 51473, -70822, -69445, 48392}},
		{two, two.Token(4), []int64{-31416, 28130, -69634, -37431, 88556}},
		{three, []int64{one, -2 * one, 3 * one}, []int64{-35417, -128403, 70444, 24140}},
		// A shorter vector has fewer numbers that count; of a longer one all count for its Norm.
		{three, []int64{one, -2 * one}, []int64{-51014, -69347, -25151, -68275}},
		{three, []int64{one, -2 * one, 3 * one, 9 * one}, []int64{-15701, -56919, 31225, 10700}},
		{three, nil, []int64{0, 0, 0, 0}},
		{least, []int64{math.MaxInt64}, []int64{3617128, -5486334}},
		{least, []int64{-5 * one}, []int64{-19982, 30308}},
	} {
		if got := Marks(c.m, c.x); !slices.Equal(got, c.want) {
			t.Errorf("%+v: Marks(%v): %v, want %v", c.m.Config(), c.x, got, c.want)
		}
	}
}

// TestNoModel (P11.1, P11.3): no model has no marks, and nothing comes next.
func TestNoModel(t *testing.T) {
	for name, m := range noModels() {
		for _, x := range vectors(3) {
			if got := Marks(m, x); len(got) != 0 {
				t.Errorf("%s: %v", name, got)
			}
			for _, n := range numbers {
				if got := Next(m, x, n, n); got != -1 {
					t.Errorf("%s: %d", name, got)
				}
			}
		}
	}
}

// TestExample (P11.1): the chapter's.
func TestExample(t *testing.T) {
	if got := Best([]int64{3, 9, 9}); got != 1 {
		t.Error(got)
	}
}

// TestBest (P11.1): the greatest mark, of like ones the least token.
func TestBest(t *testing.T) {
	for _, c := range []struct {
		marks []int64
		want  int
	}{
		{nil, -1}, {[]int64{}, -1}, {[]int64{0}, 0}, {[]int64{math.MinInt64}, 0},
		{[]int64{9, 9, 3}, 0}, {[]int64{9, 3, 9}, 0}, {[]int64{3, 9, 9, 3}, 1}, {[]int64{3, 3, 9, 9}, 2}, {[]int64{1, 2, 3}, 2},
		{[]int64{-3, -1, -2}, 1}, {[]int64{-7, -7}, 0}, {[]int64{0, 0, 0}, 0},
		{[]int64{upper - 1, upper, upper - 1}, 1},
		// Beyond the bounds marks are like the bound.
		{[]int64{0, upper, math.MaxInt64}, 1}, {[]int64{upper - 1, 1 << 31, math.MaxInt64}, 1},
		{[]int64{math.MinInt64, lower}, 0}, {[]int64{math.MinInt64, lower, lower + 1}, 2},
	} {
		if got := Best(c.marks); got != c.want {
			t.Errorf("Best(%v): %d, want %d", c.marks, got, c.want)
		}
	}
	for _, marks := range markLists() {
		if got, want := Best(marks), wantBest(marks); got != want {
			t.Errorf("Best(%v (%d)): %d, want %d", brief(marks), len(marks), got, want)
		}
	}
}

// TestDrawOfNone (P11.2): of no marks it is -1, whatever else there is.
func TestDrawOfNone(t *testing.T) {
	for _, heat := range slices.Concat(coldHeats, heats) {
		for _, top := range tops(0) {
			for _, n := range numbers {
				checkDraw(t, nil, top, heat, n, n, -1)
				checkDraw(t, []int64{}, top, heat, n, n, -1)
			}
		}
	}
}

// TestDrawByWords (P11.2): of all marks, tops and heats the token is that to which the test's own weights and sums come.
func TestDrawByWords(t *testing.T) {
	for i, marks := range markLists() {
		for _, top := range tops(len(marks)) {
			for j, heat := range heats {
				// Of the longest lists not every one with every heat.
				if len(marks) >= most && (i+j)%4 != 0 {
					continue
				}
				tokens, weights := wantWeights(marks, top, heat)
				for _, seed := range numbers {
					for _, place := range numbers {
						if len(marks) >= most && seed != place {
							continue
						}
						checkDraw(t, marks, top, heat, seed, place, wantDrawn(tokens, weights, seed, place))
					}
				}
			}
		}
	}
}

// TestDrawReckoned (P11.2): what was reckoned elsewhere: the places 0 to 15 of the seed 7.
func TestDrawReckoned(t *testing.T) {
	marks := []int64{one, 3 * one / 2, -one, one, 0}
	big := []int64{1 << 40, upper, 1 << 62, math.MinInt64, 0, math.MaxInt64}
	for _, c := range []struct {
		marks     []int64
		top, heat int
		want      []int
	}{
		{marks, 5, 1, []int{1, 1, 3, 1, 1, 1, 1, 1, 1, 1, 1, 3, 3, 0, 0, 1}},
		{marks, 5, 8, []int{0, 1, 4, 3, 0, 1, 0, 0, 1, 0, 1, 2, 2, 4, 4, 3}},
		{marks, 3, 2, []int{1, 1, 3, 0, 1, 1, 1, 1, 1, 1, 1, 3, 3, 3, 3, 1}},
		{marks, 2, 1, []int{1, 1, 0, 1, 1, 1, 1, 1, 1, 1, 1, 0, 0, 1, 1, 1}},
		{marks, 9, 1000000, []int{0, 1, 2, 3, 3, 0, 3, 0, 1, 3, 1, 2, 2, 2, 2, 3}},
		{marks, 5, 1 << 62, []int{0, 1, 2, 3, 3, 0, 3, 0, 1, 3, 1, 2, 2, 2, 2, 3}},
		{big, 6, 1, []int{1, 0, 5, 2, 1, 0, 1, 1, 0, 1, 0, 5, 5, 5, 5, 2}},
		{big, 4, 8, []int{1, 0, 5, 2, 1, 0, 1, 1, 0, 1, 0, 5, 5, 5, 5, 2}},
	} {
		for place, want := range c.want {
			checkDraw(t, c.marks, c.top, c.heat, 7, uint64(place), want)
		}
	}
	for _, c := range []struct {
		seed, place uint64
		want        int
	}{{0, 0, 4}, {0, math.MaxUint64, 1}, {math.MaxUint64, 0, 4}, {math.MaxUint64, math.MaxUint64, 3}} {
		checkDraw(t, marks, 5, 8, c.seed, c.place, c.want)
	}
}

// TestDrawShares (P11.2): over many places each token comes nearly as often as its weight says.
func TestDrawShares(t *testing.T) {
	marks := []int64{one, 3 * one / 2, -one, one, 0}
	for _, c := range []struct {
		top, heat int
		weights   []int64 // of each token, reckoned elsewhere
	}{
		{5, 8, []int64{15413, 19730, 5642, 15413, 9336}},
		{3, 2, []int64{13908, 37718, 0, 13908, 0}},
		{2, 1, []int64{7799, 57736, 0, 0, 0}},
	} {
		counts := make([]int64, len(marks))
		const draws = one
		for place := range uint64(draws) {
			counts[Draw(marks, c.top, c.heat, 99, place)]++
		}
		for token, weight := range c.weights {
			if far := counts[token] - weight; far < -1000 || far > 1000 || weight == 0 && far != 0 {
				t.Errorf("top %d, heat %d: token %d came %d times of %d, its weight is %d", c.top, c.heat, token, counts[token], draws, weight)
			}
		}
	}
}

// TestDrawAtSeams (P11.2): one whose draw is just the weights ahead is the next one's: of two like marks each has a half.
func TestDrawAtSeams(t *testing.T) {
	halves := 0
	for place := range uint64(200000) {
		drawn := rand.Below(5, place, one)
		if drawn == one/2 || drawn == one/2-1 {
			halves++
		}
		want := 0
		if drawn >= one/2 {
			want = 1
		}
		checkDraw(t, []int64{one, one}, 2, 8, 5, place, want)
	}
	if halves < 2 {
		t.Error("no draw is at the seam")
	}
}

// TestHeat (P11.2): the higher the heat, the less the likeliest one is drawn.
func TestHeat(t *testing.T) {
	marks := []int64{0, one / 2, one, one / 4}
	last := math.MaxInt
	for _, heat := range []int{1, 2, 4, 8, 100} {
		count := 0
		for place := range uint64(4000) {
			if Draw(marks, 4, heat, 11, place) == 2 {
				count++
			}
		}
		if count >= last {
			t.Errorf("heat %d: %d, with less heat %d", heat, count, last)
		}
		last = count
	}
}

// TestNextByWords (P11.3): it is drawn of the marks with the model's own Top and Heat.
func TestNextByWords(t *testing.T) {
	for _, m := range models(t) {
		c := m.Config()
		for i, x := range vectors(c.Dim) {
			marks := wantMarks(m, x)
			for place := range uint64(20) {
				seed := uint64(i)
				want := wantBest(marks)
				if c.Heat > 0 {
					tokens, weights := wantWeights(marks, c.Top, c.Heat)
					want = wantDrawn(tokens, weights, seed, place)
				}
				if got := Next(m, x, seed, place); got != want {
					t.Fatalf("%+v: Next(%v (%d), %d, %d): %d, want %d", c, brief(x), len(x), seed, place, got, want)
				}
			}
		}
	}
}

// TestNextReckoned (P11.3): what was reckoned elsewhere: the places 0 to 11 of the seed 9, with four Tops and Heats of one model.
func TestNextReckoned(t *testing.T) {
	for _, c := range []struct {
		top, heat int
		want      []int
	}{
		{5, 8, []int{0, 0, 1, 3, 1, 1, 0, 2, 1, 3, 0, 1}},
		{2, 1, []int{4, 4, 1, 4, 1, 1, 4, 4, 1, 4, 4, 1}},
		{5, 0, []int{1, 1, 1, 1, 1, 1, 1, 1, 1, 1, 1, 1}},
		{1, 8, []int{1, 1, 1, 1, 1, 1, 1, 1, 1, 1, 1, 1}},
	} {
		m := modelOf(t, api.Config{Seed: 3, Vocab: 5, Dim: 2, Layers: 1, Top: c.top, Heat: c.heat})
		for place, want := range c.want {
			if got := Next(m, m.Token(1), 9, uint64(place)); got != want {
				t.Errorf("Top %d, Heat %d, place %d: %d, want %d", c.top, c.heat, place, got, want)
			}
		}
	}
	m := modelOf(t, api.Config{Seed: math.MaxUint64, Vocab: 64, Dim: 16, Layers: 4, Top: 64, Heat: 8})
	for place, want := range []int{42, 53, 37, 50, 50, 21, 9, 38, 5, 20, 5, 26, 50, 38, 50, 5} {
		if got := Next(m, m.Token(5), 1, uint64(place)); got != want {
			t.Errorf("place %d: %d, want %d", place, got, want)
		}
	}
}

// TestDrawnIsOneOfTop (P11.4): by many seeds and places: what is drawn is one of the greatest, of which there are no more than top.
func TestDrawnIsOneOfTop(t *testing.T) {
	for _, marks := range markLists() {
		rounds := uint64(300)
		if len(marks) >= most {
			rounds = 5
		}
		for _, top := range tops(len(marks)) {
			tokens := wantTop(marks, top)
			for n := range rounds {
				seed, place := uint64(some(2*n)), uint64(some(2*n+1))
				heat := heats[n%uint64(len(heats))]
				if got := Draw(marks, top, heat, seed, place); !slices.Contains(tokens, got) {
					t.Fatalf("Draw(%v (%d), %d, %d, %d, %d): %d is none of %v", brief(marks), len(marks), top, heat, seed, place, got, brief(tokens))
				}
			}
		}
	}
	for _, m := range models(t) {
		for n := range uint64(300) {
			x := ordinary(m.Config().Dim, n, 18)
			if got := Next(m, x, n*n, n); !slices.Contains(wantTop(wantMarks(m, x), m.Config().Top), got) {
				t.Fatalf("%+v: Next(%v, %d, %d): %d", m.Config(), x, n*n, n, got)
			}
		}
	}
}

// TestEachOfTopIsDrawn (P11.4): with much heat each of the greatest comes at some place, and the last of them too.
func TestEachOfTopIsDrawn(t *testing.T) {
	marks := ordinary(20, 77, 17)
	for top := 1; top <= 20; top++ {
		tokens, seen := wantTop(marks, top), map[int]bool{}
		for place := range uint64(3000) {
			seen[Draw(marks, top, 8, 4, place)] = true
		}
		if len(seen) != len(tokens) {
			t.Errorf("top %d: %d tokens are drawn, of %d", top, len(seen), len(tokens))
		}
	}
}

// TestDrawAgain (P11.5): the same draw answers the same, whatever was drawn in between, and from another list with the same marks.
func TestDrawAgain(t *testing.T) {
	m := modelOf(t, api.Config{Seed: 8, Vocab: 64, Dim: 6, Layers: 2, Top: 9, Heat: 5})
	marks, x := ordinary(30, 3, 17), ordinary(6, 2, 18)
	type asked struct {
		top, heat   int
		seed, place uint64
	}
	all := map[asked][2]int{}
	for round := range uint64(3) {
		for n := range uint64(500) {
			n = (n*(2*round+1) + 17*round) % 500 // each round in an order of its own
			a := asked{int(n % 31), int(n % 10), n / 7, n * n}
			got := [2]int{Draw(slices.Clone(marks), a.top, a.heat, a.seed, a.place), Next(m, slices.Clone(x), a.seed, a.place)}
			if was, there := all[a]; there && got != was {
				t.Fatalf("%+v: %v, and ahead of it %v", a, got, was)
			}
			all[a] = got
			Best(ordinary(int(n), n, 64))
			Marks(m, ordinary(int(n), n, 20))
		}
	}
}

// TestSeedAndPlaceCount (P11.5): another seed and another place draw other tokens.
func TestSeedAndPlaceCount(t *testing.T) {
	marks := make([]int64, 64)
	seeds, places := map[int]bool{}, map[int]bool{}
	for n := range uint64(64) {
		seeds[Draw(marks, 64, 8, n, 3)] = true
		places[Draw(marks, 64, 8, 3, n)] = true
	}
	if len(seeds) < 20 || len(places) < 20 {
		t.Error(len(seeds), len(places))
	}
}

// roomy is a copy of a list with room behind it, in which the numbers 77 stand.
func roomy(l []int64) []int64 {
	room := append(slices.Clone(l), 77, 77, 77, 77)
	return room[:len(l)]
}

// checkRoom tells whether a list is as it was, with the room behind it.
func checkRoom(t *testing.T, now, was []int64) {
	t.Helper()
	if !slices.Equal(now[:len(was)+4], append(slices.Clone(was), 77, 77, 77, 77)) {
		t.Fatalf("%v was turned into %v", brief(was), brief(now[:len(was)+4]))
	}
}

// TestListsStay (P11.5, R4): marks and vectors that are handed in stay as they are, and what is answered may be written over.
func TestListsStay(t *testing.T) {
	for _, was := range append(markLists(), nil) {
		marks := roomy(was)
		for _, top := range []int{-1, 1, 2, len(was), most} {
			Best(marks)
			Draw(marks, top, 0, 1, 2)
			Draw(marks, top, 3, 1, 2)
			checkRoom(t, marks, was)
		}
	}
	for _, m := range models(t) {
		for _, was := range vectors(m.Config().Dim) {
			x := roomy(was)
			first, token := Marks(m, x), Next(m, x, 5, 6)
			kept := slices.Clone(first)
			checkRoom(t, x, was)
			for i := range first {
				first[i] = -99
			}
			checkRoom(t, x, was)
			if !slices.Equal(Marks(m, x), kept) || Next(m, x, 5, 6) != token {
				t.Fatalf("%+v: %v: what was written over an answer is seen", m.Config(), brief(x))
			}
		}
	}
}

// TestOneOrCold (P11.6): of one, or without heat, it is the likeliest, whatever the seed and the place.
func TestOneOrCold(t *testing.T) {
	for _, marks := range markLists() {
		want := wantBest(marks)
		for _, seed := range numbers {
			for _, place := range numbers {
				if len(marks) >= most && seed != place {
					continue
				}
				for _, heat := range heats {
					for _, top := range []int{math.MinInt, -1, 0, 1} {
						checkDraw(t, marks, top, heat, seed, place, want)
					}
				}
			}
			for _, heat := range coldHeats {
				for _, top := range tops(len(marks)) {
					checkDraw(t, marks, top, heat, seed, seed+1, want)
				}
			}
		}
		if Best(marks) != want {
			t.Errorf("Best(%v (%d)) is not %d", brief(marks), len(marks), want)
		}
	}
}

// TestEveryTopWithoutHeat (P11.6): without heat no top counts.
func TestEveryTopWithoutHeat(t *testing.T) {
	marks := ordinary(64, 41, 17)
	for top := -2; top <= 70; top++ {
		for place := range uint64(30) {
			checkDraw(t, marks, top, 0, 9, place, wantBest(marks))
		}
	}
}

// TestOneMark (P11.2, P11.6): of one mark alone it is that, with every top and heat.
func TestOneMark(t *testing.T) {
	for _, mark := range []int64{0, 1, -1, one, math.MinInt64, math.MaxInt64} {
		for _, heat := range slices.Concat(coldHeats, heats) {
			for _, top := range tops(1) {
				for _, n := range numbers {
					checkDraw(t, []int64{mark}, top, heat, n, n, 0)
				}
			}
		}
	}
}
