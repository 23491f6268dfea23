package attn

import (
	"math"
	"slices"
	"testing"

	"garboard/api"
	"garboard/fixed"
	"garboard/model"
)

const one = 65536

// modelOf is a model of a seed, a Dim and layers.
func modelOf(t *testing.T, seed uint64, dim, layers int) *model.Model {
	t.Helper()
	m, err := model.New(api.Config{Seed: seed, Vocab: 64, Dim: dim, Layers: layers, Top: 1})
	if err != api.OK {
		t.Fatal(err)
	}
	return m
}

// models are ordinary ones, and those with the least and the greatest Dim and number of layers.
func models(t *testing.T) []*model.Model {
	t.Helper()
	return []*model.Model{
		modelOf(t, 11, 1, 1), modelOf(t, 12, 1, 4), modelOf(t, 3, 2, 1), modelOf(t, math.MaxUint64, 3, 4),
		modelOf(t, 0, 5, 2), modelOf(t, 13, 8, 3), modelOf(t, 14, 16, 1), modelOf(t, 15, 16, 4),
	}
}

// noModels are models that are none.
func noModels() map[string]*model.Model {
	refused, _ := model.New(api.Config{Seed: 1, Vocab: 1, Dim: 1, Layers: 1, Top: 1})
	return map[string]*model.Model{"nil": nil, "new": new(model.Model), "refused": refused}
}

// some is a number that hangs on n alone.
func some(n uint64) int64 {
	h := uint64(0xcbf29ce484222325)
	for range 8 {
		h = (h ^ n&0xff) * 0x100000001b3
		n >>= 8
	}
	return int64(h ^ h>>29)
}

// ordinary is a vector of n numbers below 0, of 0 and above, each of fewer than bits bits.
func ordinary(n int, seed uint64, bits int) []int64 {
	l := make([]int64, n)
	for i := range l {
		l[i] = some(seed<<32+uint64(i)) >> (64 - bits)
	}
	return l
}

// several are so many vectors of a length.
func several(rows, columns int, seed uint64, bits int) [][]int64 {
	l := make([][]int64, rows)
	for i := range l {
		l[i] = ordinary(columns, seed+uint64(i), bits)
	}
	return l
}

// vectors are of all lengths about a Dim: none, fewer, as many and more; of ordinary numbers, noughts, and numbers at the bounds and beyond.
func vectors(dim int) [][]int64 {
	all := [][]int64{nil, {}, {0}, {1}, {-one}, {math.MinInt64}, {math.MaxInt64}, {math.MaxInt64, math.MinInt64, 0, 1 << 31, -1 << 31, 1<<31 - 1}}
	for _, n := range []int{dim - 1, dim, dim + 1, 2*dim + 3, 64} {
		all = append(all, make([]int64, n), ordinary(n, uint64(n), 18), ordinary(n, uint64(n+1), 30), ordinary(n, uint64(n+2), 64))
	}
	return append(all, ordinary(4096, 5, 17), ordinary(4097, 6, 17), append(make([]int64, 4096), math.MaxInt64))
}

// pair are keys and values.
type pair struct{ keys, values [][]int64 }

// pairs are none, few and many, unlike lists, numbers beyond the bounds, and vectors that are shorter and longer than a Dim.
func pairs(dim int) []pair {
	return []pair{
		{nil, nil},
		{[][]int64{}, nil},
		{several(1, dim, 1, 18), several(1, dim, 2, 18)},
		{several(2, dim, 11, 18), several(2, dim, 21, 18)},
		{several(9, dim, 31, 17), several(9, dim, 41, 17)},
		{several(40, dim, 51, 20), several(40, dim, 101, 16)},
		{several(3, dim, 151, 64), several(3, dim, 161, 64)},
		{several(5, dim, 171, 18), several(3, dim, 181, 18)},
		{several(3, dim, 191, 18), several(5, dim, 201, 18)},
		{several(5, dim, 211, 18), nil},
		{nil, several(5, dim, 221, 18)},
		{[][]int64{nil, {one}, ordinary(dim+5, 231, 18)}, [][]int64{ordinary(dim+5, 232, 18), ordinary(dim, 233, 18), ordinary(dim+1, 234, 18)}},
		{several(2, dim, 241, 18), [][]int64{{}, ordinary(dim, 242, 18)}},
		{several(3, dim, 251, 18), [][]int64{ordinary(dim, 252, 18), ordinary(1, 253, 18), ordinary(dim, 254, 18)}},
	}
}

// wantDot is layer 8's, as its words say; so are those behind it.
func wantDot(a, b []int64) int64 {
	var sum int64
	for i := 0; i < len(a) && i < len(b) && i < 4096; i++ {
		sum = fixed.Add(sum, fixed.Mul(a[i], b[i]))
	}
	return sum
}

func wantNorm(a []int64) []int64 {
	a = a[:min(len(a), 4096)]
	mean := fixed.Div(wantDot(a, a), fixed.FromInt(int64(len(a))))
	root := fixed.Sqrt(fixed.Add(mean, 1))
	var l []int64
	for _, n := range a {
		l = append(l, fixed.Div(n, root))
	}
	return l
}

func wantMul(rows [][]int64, a []int64) []int64 {
	var l []int64
	for _, row := range rows {
		l = append(l, wantDot(row, a))
	}
	return l
}

func wantAdd(a, b []int64) []int64 {
	var l []int64
	for i := 0; i < len(a) && i < len(b); i++ {
		l = append(l, fixed.Add(a[i], b[i]))
	}
	return l
}

// wantWeights are the weights of at most 4096 keys for a query, as the chapter's words say.
func wantWeights(dim int, query []int64, keys [][]int64) []int64 {
	var marks []int64
	for _, key := range keys[:min(len(keys), 4096)] {
		marks = append(marks, fixed.Div(wantDot(key, query), fixed.Sqrt(int64(dim)*one)))
	}
	greatest := slices.Max(marks)
	var powers, weights []int64
	var sum int64
	for _, mark := range marks {
		power := fixed.Exp(fixed.Add(mark, -greatest))
		powers = append(powers, power)
		sum = fixed.Add(sum, power)
	}
	for _, power := range powers {
		weights = append(weights, fixed.Div(power, sum))
	}
	return weights
}

// wantMix is a mix of values; there are as many as weights, or more.
func wantMix(weights []int64, values [][]int64) []int64 {
	mixed := make([]int64, len(values[0]))
	for at, weight := range weights {
		mixed = mixed[:min(len(mixed), len(values[at]))]
		for i := range mixed {
			mixed[i] = fixed.Add(mixed[i], fixed.Mul(values[at][i], weight))
		}
	}
	return mixed
}

// wantStep is what a layer that there is makes of a vector, as the chapter's words say.
func wantStep(m *model.Model, layer int, x []int64, keys, values [][]int64) (made, key, value []int64) {
	n := wantNorm(x)
	query := wantMul(m.Rows(layer, 0), n)
	key = wantMul(m.Rows(layer, 1), n)
	value = wantMul(m.Rows(layer, 2), n)
	var allKeys, allValues [][]int64
	for i := 0; i < len(keys) && i < len(values); i++ {
		allKeys = append(allKeys, keys[i])
		allValues = append(allValues, values[i])
	}
	allKeys = append(allKeys, key)
	allValues = append(allValues, value)
	weights := wantWeights(m.Config().Dim, query, allKeys)
	h := wantAdd(x, wantMul(m.Rows(layer, 3), wantMix(weights, allValues)))
	up := wantMul(m.Rows(layer, 4), wantNorm(h))
	for i := range up {
		up[i] = max(up[i], 0)
	}
	return wantAdd(h, wantMul(m.Rows(layer, 5), up)), key, value
}

// brief is the beginning of a list that is too long to be shown.
func brief[E any](l []E) []E { return l[:min(len(l), 6)] }

// checkStep tells where a layer makes something else than is wanted.
func checkStep(t *testing.T, m *model.Model, layer int, x []int64, p pair, made, key, value []int64) {
	t.Helper()
	gotMade, gotKey, gotValue := Step(m, layer, x, p.keys, p.values)
	for _, l := range []struct {
		name      string
		got, want []int64
	}{{"made", gotMade, made}, {"key", gotKey, key}, {"value", gotValue, value}} {
		if !slices.Equal(l.got, l.want) {
			t.Fatalf("%+v: Step(%d, %v (%d), %d keys, %d values): %s %v (%d), want %v (%d)", m.Config(), layer, brief(x), len(x), len(p.keys), len(p.values), l.name, brief(l.got), len(l.got), brief(l.want), len(l.want))
		}
	}
}

// TestStepByWords (P10.1): of all vectors, with all lists, each layer makes what the chapter's words tell.
func TestStepByWords(t *testing.T) {
	for _, m := range models(t) {
		c := m.Config()
		for layer := range c.Layers {
			for i, x := range vectors(c.Dim) {
				for j, p := range pairs(c.Dim) {
					// With every vector and every list, but not with all of both in the layers behind the first.
					if layer > 0 && (i+j)%5 != 0 {
						continue
					}
					made, key, value := wantStep(m, layer, x, p.keys, p.values)
					checkStep(t, m, layer, x, p, made, key, value)
				}
			}
		}
	}
}

// TestStepReckoned (P10.1): what was reckoned elsewhere, with whole numbers of any size.
func TestStepReckoned(t *testing.T) {
	two, ends := modelOf(t, 3, 2, 1), modelOf(t, math.MaxUint64, 3, 4)
	three := []int64{one, -2 * one, 3 * one}
	ahead := pair{[][]int64{{one, 0, -one}}, [][]int64{{1000, -2000, 3 * one}}}
	for _, c := range []struct {
		m                *model.Model
		layer            int
		x                []int64
		p                pair
		made, key, value []int64
	}{
		{two, 0, two.Token(1), pair{}, []int64{2825, -33433}, []int64{58278, 35079}, []int64{55322, -49124}},
		{two, 0, two.Token(1), pair{[][]int64{{one, -one}, {2 * one, one / 2}}, [][]int64{{5 * one, 7 * one}, {-one, 3 * one}}}, []int64{110985, -36225}, []int64{58278, 35079}, []int64{55322, -49124}},
		{ends, 0, three, ahead, []int64{135256, -143866, 63894}, []int64{15978, -21267, -12029}, []int64{60118, 27093, 80391}},
		{ends, 1, three, ahead, []int64{103504, -137089, 181829}, []int64{-99041, -109350, -43818}, []int64{-25542, 377, -10618}},
		{ends, 2, three, ahead, []int64{125542, -29591, 117338}, []int64{-57366, 27959, 77160}, []int64{37942, 74283, 125278}},
		{ends, 3, three, ahead, []int64{70010, -24129, 190556}, []int64{3152, -55443, -13408}, []int64{-85215, -10451, -117711}},
		// Of a longer vector all numbers count for its Norm; of a shorter one as many are made as it has.
		{ends, 3, append(slices.Clone(three), 9*one), pair{}, []int64{-71895, -157940, 173651}, []int64{1397, -24578, -5944}, []int64{-37774, -4634, -52179}},
		{ends, 3, three[:2], pair{}, []int64{-61663, -240030}, []int64{24033, 26659, 73284}, []int64{-59965, 79019, -39081}},
		{ends, 3, nil, pair{}, nil, []int64{0, 0, 0}, []int64{0, 0, 0}},
		{ends, 3, nil, ahead, nil, []int64{0, 0, 0}, []int64{0, 0, 0}},
	} {
		checkStep(t, c.m, c.layer, c.x, c.p, c.made, c.key, c.value)
	}
}

// TestStepOfNone (P10.1): of no model, or no such layer: x, nothing, nothing; the first layer and the last are some.
func TestStepOfNone(t *testing.T) {
	all := []int{math.MinInt, -1 << 32, -5, -2, -1, 4, 5, 1 << 32, math.MaxInt}
	for _, x := range vectors(3) {
		for _, p := range pairs(3) {
			for _, m := range noModels() {
				for _, layer := range append(slices.Clone(all), 0, 1, 2, 3) {
					checkStep(t, m, layer, x, p, x, nil, nil)
				}
			}
			for _, m := range models(t) {
				for _, layer := range append(slices.Clone(all), m.Config().Layers) {
					checkStep(t, m, layer, x, p, x, nil, nil)
				}
			}
		}
	}
	for _, m := range models(t) {
		c := m.Config()
		for _, layer := range []int{0, c.Layers - 1} {
			if _, key, value := Step(m, layer, nil, nil, nil); len(key) != c.Dim || len(value) != c.Dim {
				t.Errorf("%+v: layer %d has %d and %d numbers", c, layer, len(key), len(value))
			}
		}
	}
}

// TestUnlikeLists (P10.1): of unlike lists as many as both have count.
func TestUnlikeLists(t *testing.T) {
	for _, m := range models(t) {
		dim := m.Config().Dim
		x, keys, values := ordinary(dim, 7, 18), several(6, dim, 300, 18), several(6, dim, 310, 18)
		for n := range 7 {
			made, key, value := Step(m, 0, x, keys[:n], values[:n])
			checkStep(t, m, 0, x, pair{keys[:n], values}, made, key, value)
			checkStep(t, m, 0, x, pair{keys, values[:n]}, made, key, value)
		}
	}
}

// TestOwnValueAlone (P10.1): the example: of no places ahead all weight is the own value's; so it is with keys that are lost, or far away.
func TestOwnValueAlone(t *testing.T) {
	for _, m := range models(t) {
		dim := m.Config().Dim
		for layer := range m.Config().Layers {
			for seed := range uint64(20) {
				x := ordinary(dim, seed, 18)
				_, _, value := wantStep(m, layer, x, nil, nil)
				h := wantAdd(x, wantMul(m.Rows(layer, model.Out), value))
				up := wantMul(m.Rows(layer, model.Up), wantNorm(h))
				for i := range up {
					up[i] = max(up[i], 0)
				}
				want := wantAdd(h, wantMul(m.Rows(layer, model.Down), up))
				values := several(4, dim, seed+400, 18)
				for _, p := range []pair{{nil, nil}, {nil, values}, {values, nil}, {farKeys(m, layer, x), values}} {
					if got, _, _ := Step(m, layer, x, p.keys, p.values); !slices.Equal(got, want) {
						t.Fatalf("%+v: layer %d, %v: %v, want %v", m.Config(), layer, x, got, want)
					}
				}
			}
		}
	}
}

// farKeys are keys whose marks are so far below that of the vector's own that no weight is left for them.
func farKeys(m *model.Model, layer int, x []int64) [][]int64 {
	query := wantMul(m.Rows(layer, model.Query), wantNorm(x))
	if wantDot(query, query) < one/64 {
		return nil // too small a query to be far from
	}
	far := make([]int64, len(query))
	for i, n := range query {
		far[i] = fixed.Mul(n, -20000*one)
	}
	return [][]int64{far, far, far, far}
}

// TestLikeKeys (P10.1): values whose keys are like each other weigh as much, in any order; the value of a key that is nearer weighs more.
func TestLikeKeys(t *testing.T) {
	m := modelOf(t, 21, 4, 2)
	x, other := ordinary(4, 9, 18), ordinary(4, 10, 20)
	alone, key, value := Step(m, 1, x, nil, nil)
	first, _, _ := Step(m, 1, x, [][]int64{key, key}, [][]int64{other, value})
	second, _, _ := Step(m, 1, x, [][]int64{key, key}, [][]int64{value, other})
	if !slices.Equal(first, second) || slices.Equal(first, alone) {
		t.Error(first, second, alone)
	}
	third, _, _ := Step(m, 1, x, [][]int64{key, other}, [][]int64{other, value})
	fourth, _, _ := Step(m, 1, x, [][]int64{key, other}, [][]int64{value, other})
	if slices.Equal(third, fourth) {
		t.Error(third, fourth)
	}
}

// TestManyPlaces (P10.1): with more than 4096 places those behind, the own one among them, are let go, as layer 8 says.
func TestManyPlaces(t *testing.T) {
	m := modelOf(t, 22, 3, 1)
	x := ordinary(3, 12, 18)
	keys, values := several(4100, 3, 1000, 12), several(4100, 3, 9000, 20)
	var results [][]int64
	for _, n := range []int{4094, 4095, 4096, 4097, 4100} {
		p := pair{keys[:n], values[:n]}
		made, key, value := wantStep(m, 0, x, p.keys, p.values)
		checkStep(t, m, 0, x, p, made, key, value)
		results = append(results, made)
	}
	if !slices.Equal(results[2], results[3]) || !slices.Equal(results[2], results[4]) {
		t.Error(results)
	}
}

// roomy is a copy of a list with room behind it, in which the numbers 77 stand.
func roomy(l []int64) []int64 {
	room := append(slices.Clone(l), 77, 77, 77, 77)
	return room[:len(l)]
}

// roomyRows is a copy of a list of vectors with room behind it and behind each.
func roomyRows(rows [][]int64) [][]int64 {
	var room [][]int64
	for _, row := range rows {
		room = append(room, roomy(row))
	}
	marker := []int64{78}
	room = append(room, marker, marker, marker)
	return room[:len(rows)]
}

// checkRoom tells whether a list is as it was, with the room behind it.
func checkRoom(t *testing.T, now, was []int64) {
	t.Helper()
	if !slices.Equal(now[:len(was)+4], append(slices.Clone(was), 77, 77, 77, 77)) {
		t.Fatalf("%v was turned into %v", was, now[:len(was)+4])
	}
}

// checkRoomRows is checkRoom of a list of vectors.
func checkRoomRows(t *testing.T, now, was [][]int64) {
	t.Helper()
	for i := range was {
		checkRoom(t, now[i], was[i])
	}
	for _, row := range now[len(was) : len(was)+3] {
		if !slices.Equal(row, []int64{78}) {
			t.Fatalf("%v was laid into the room behind", row)
		}
	}
}

// spoil writes over a list, and into the room behind it, if there is any.
func spoil(l []int64) {
	room := l[:cap(l)]
	for i := range room {
		room[i] = -9
	}
}

// TestStepWritesNothing (R4): lists that were handed in, and the room behind them, stay as they are, also as the answers are written over.
func TestStepWritesNothing(t *testing.T) {
	for _, m := range append(models(t), nil) {
		dim := m.Config().Dim
		for _, layer := range []int{-1, 0, m.Config().Layers - 1, 4} {
			for _, p := range pairs(dim) {
				for _, x := range [][]int64{{}, ordinary(1, 13, 18), ordinary(dim, 14, 18), ordinary(dim+3, 15, 64)} {
					roomX, keys, values := roomy(x), roomyRows(p.keys), roomyRows(p.values)
					made, key, value := Step(m, layer, roomX, keys, values)
					checkApart(t, made, key, value)
					for _, l := range [][]int64{made, key, value} {
						spoil(l)
					}
					checkRoom(t, roomX, x)
					checkRoomRows(t, keys, p.keys)
					checkRoomRows(t, values, p.values)
				}
			}
		}
	}
}

// checkApart tells whether lists share memory; it leaves them as they are.
func checkApart(t *testing.T, lists ...[]int64) {
	t.Helper()
	for i, l := range lists {
		was := slices.Clone(l[:cap(l)])
		var others [][]int64
		for j, other := range lists {
			if i != j {
				others = append(others, other, slices.Clone(other))
			}
		}
		spoil(l)
		for j := 0; j < len(others); j += 2 {
			if !slices.Equal(others[j], others[j+1]) {
				t.Fatalf("the list %d shares memory with another one", i)
			}
		}
		copy(l[:cap(l)], was)
	}
}

// TestNilAndEmpty (R6): a nil list and an empty one are the same.
func TestNilAndEmpty(t *testing.T) {
	for _, m := range models(t) {
		made, key, value := Step(m, 0, nil, nil, nil)
		checkStep(t, m, 0, []int64{}, pair{[][]int64{}, [][]int64{}}, made, key, value)
		made, key, value = Step(m, 0, m.Token(1), [][]int64{nil}, [][]int64{nil})
		checkStep(t, m, 0, m.Token(1), pair{[][]int64{{}}, [][]int64{{}}}, made, key, value)
	}
}
