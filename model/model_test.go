package model

import (
	"math"
	"math/bits"
	"slices"
	"testing"

	"garboard/api"
)

const one = 65536

// greatest is a configuration with every field at its upper bound.
func greatest(seed uint64) api.Config {
	return api.Config{Seed: seed, Vocab: 64, Dim: 16, Layers: 4, Top: 64, Heat: 8}
}

// least is a configuration with every field at its lower bound.
func least(seed uint64) api.Config {
	return api.Config{Seed: seed, Vocab: 2, Dim: 1, Layers: 1, Top: 1, Heat: 0}
}

// seeds are the edges, each bit alone, and ordinary ones.
func seeds() []uint64 {
	all := []uint64{0, 1, 2, 3, 63, 64, 65, math.MaxInt64, math.MaxUint64 - 1, math.MaxUint64, 0x9E3779B97F4A7C15}
	for i := range 64 {
		all = append(all, 1<<i)
	}
	for i := range uint64(40) {
		all = append(all, (i+5)*0xD1342543DE82EF95)
	}
	slices.Sort(all)
	return slices.Compact(all)
}

// configs are configurations that may be, of all sizes.
func configs() []api.Config {
	var all []api.Config
	for _, seed := range []uint64{0, 1, 3, 77, 1 << 63, math.MaxUint64} {
		all = append(all, least(seed), greatest(seed))
		for _, vocab := range []int{2, 3, 17, 63, 64} {
			for _, dim := range []int{1, 2, 5, 15, 16} {
				for layers := 1; layers <= 4; layers++ {
					all = append(all, api.Config{Seed: seed, Vocab: vocab, Dim: dim, Layers: layers, Top: 1 + (dim+layers)%vocab, Heat: (vocab + dim) % 9})
				}
			}
		}
	}
	return all
}

// beyond are numbers that are neither a token, nor a place, nor a layer, nor a kind of any model.
func beyond() []int {
	return []int{math.MinInt, math.MinInt + 1, -1 << 32, -257, -256, -65, -64, -6, -2, -1, 256, 257, 1 << 16, 1 << 31, 1 << 32, 1 << 58, 1 << 62, math.MaxInt - 1, math.MaxInt}
}

// mustNew is a model of a configuration that may be.
func mustNew(t *testing.T, c api.Config) *Model {
	t.Helper()
	m, err := New(c)
	if err != api.OK || m == nil {
		t.Fatalf("New(%+v) = %v, %v", c, m, err)
	}
	return m
}

// drawn is the draw n of a seed, as chapter 6's words say.
func drawn(seed, n uint64) uint64 {
	d := seed + (n+1)*0x9E3779B97F4A7C15
	d = (d ^ d>>30) * 0xBF58476D1CE4E5B9
	d = (d ^ d>>27) * 0x94D049BB133111EB
	return d ^ d>>31
}

// wantWeight is a weight, as the chapter's words say.
func wantWeight(seed uint64, table, row, column int) int64 {
	upper, _ := bits.Mul64(drawn(drawn(seed, uint64(table)), uint64(64*row+column)), 131073)
	return int64(upper) - 65536
}

// byFour is the greatest whole number that is not above a fourth.
func byFour(n int64) int64 { return int64(math.Floor(float64(n) / 4)) }

func wantToken(c api.Config, token int) []int64 {
	var l []int64
	for column := 0; column < c.Dim; column++ {
		l = append(l, wantWeight(c.Seed, 0, token, column))
	}
	return l
}

func wantPlace(c api.Config, place int) []int64 {
	var l []int64
	for column := 0; column < c.Dim; column++ {
		l = append(l, byFour(wantWeight(c.Seed, 1, place, column)))
	}
	return l
}

func wantRows(c api.Config, layer, which int) [][]int64 {
	var l [][]int64
	for row := 0; row < c.Dim; row++ {
		var r []int64
		for column := 0; column < c.Dim; column++ {
			r = append(r, wantWeight(c.Seed, 2+6*layer+which, row, column))
		}
		l = append(l, r)
	}
	return l
}

// sameRows tells whether two tables have the same numbers.
func sameRows(a, b [][]int64) bool { return slices.EqualFunc(a, b, slices.Equal[[]int64]) }

// checkWhole tells where a model's tables are not those of its configuration, as the chapter's words say.
func checkWhole(t *testing.T, m *Model, c api.Config) {
	t.Helper()
	if got := m.Config(); got != c {
		t.Fatalf("Config() = %+v, want %+v", got, c)
	}
	for token := range c.Vocab {
		if got, want := m.Token(token), wantToken(c, token); !slices.Equal(got, want) {
			t.Fatalf("%+v: Token(%d) = %v, want %v", c, token, got, want)
		}
	}
	for place := range 256 {
		if got, want := m.Place(place), wantPlace(c, place); !slices.Equal(got, want) {
			t.Fatalf("%+v: Place(%d) = %v, want %v", c, place, got, want)
		}
	}
	for layer := range c.Layers {
		for which := range 6 {
			if got, want := m.Rows(layer, which), wantRows(c, layer, which); !sameRows(got, want) {
				t.Fatalf("%+v: Rows(%d, %d) = %v, want %v", c, layer, which, got, want)
			}
		}
	}
}

// checkNothing tells where a model has something at numbers of which it has none.
func checkNothing(t *testing.T, m *Model, tokens, places, layers, kinds []int) {
	t.Helper()
	for _, n := range tokens {
		if got := m.Token(n); len(got) != 0 {
			t.Errorf("Token(%d) = %v", n, got)
		}
	}
	for _, n := range places {
		if got := m.Place(n); len(got) != 0 {
			t.Errorf("Place(%d) = %v", n, got)
		}
	}
	for _, layer := range layers {
		for which := -1; which <= 6; which++ {
			if got := m.Rows(layer, which); len(got) != 0 {
				t.Errorf("Rows(%d, %d) = %v", layer, which, got)
			}
		}
	}
	for _, which := range kinds {
		for layer := -1; layer <= 4; layer++ {
			if got := m.Rows(layer, which); len(got) != 0 {
				t.Errorf("Rows(%d, %d) = %v", layer, which, got)
			}
		}
	}
}

// TestKinds: the kinds of a layer's tables are the chapter's numbers.
func TestKinds(t *testing.T) {
	if got := []int{Query, Key, Value, Out, Up, Down}; !slices.Equal(got, []int{0, 1, 2, 3, 4, 5}) {
		t.Error(got)
	}
}

// field is how one field of a configuration is set, and its bounds.
type field struct {
	set       func(c *api.Config, n int)
	low, high int
}

// fields are those of a configuration whose others are the greatest one's; a Top beyond Vocab goes down with it.
func fields() map[string]field {
	return map[string]field{
		"Vocab":  {func(c *api.Config, n int) { c.Vocab, c.Top = n, min(c.Top, max(n, 1)) }, 2, 64},
		"Dim":    {func(c *api.Config, n int) { c.Dim = n }, 1, 16},
		"Layers": {func(c *api.Config, n int) { c.Layers = n }, 1, 4},
		"Top":    {func(c *api.Config, n int) { c.Top = n }, 1, 64},
		"Heat":   {func(c *api.Config, n int) { c.Heat = n }, 0, 8},
	}
}

// TestMay (P9.1): a configuration may be just if each field is within its bounds, and New refuses all others.
func TestMay(t *testing.T) {
	for name, field := range fields() {
		numbers := beyond()
		for n := -3; n <= 70; n++ {
			numbers = append(numbers, n)
		}
		for _, n := range numbers {
			for _, seed := range []uint64{0, 5, math.MaxUint64} {
				c := greatest(seed)
				field.set(&c, n)
				checkMay(t, name, c, field.low <= n && n <= field.high)
			}
		}
	}
}

// checkMay tells whether May and New take a configuration just if they should.
func checkMay(t *testing.T, name string, c api.Config, may bool) {
	t.Helper()
	if got := May(c); got != may {
		t.Errorf("%s: May(%+v) = %v", name, c, got)
	}
	m, err := New(c)
	if may && (err != api.OK || m == nil || m.Config() != c) {
		t.Errorf("%s: New(%+v) = %v, %v", name, c, m, err)
	}
	if !may && (err != api.ErrArg || m != nil) {
		t.Errorf("%s: New(%+v) = %v, %v", name, c, m, err)
	}
}

// TestMayEdges (P9.1): the edges that the chapter names, written out.
func TestMayEdges(t *testing.T) {
	for _, edge := range []struct {
		name                          string
		vocab, dim, layers, top, heat int
		may                           bool
	}{
		{"least", 2, 1, 1, 1, 0, true},
		{"greatest", 64, 16, 4, 64, 8, true},
		{"ordinary", 32, 8, 2, 5, 3, true},
		{"nothing set", 0, 0, 0, 0, 0, false},
		{"Vocab 0", 0, 8, 2, 1, 3, false},
		{"Vocab 1", 1, 8, 2, 1, 3, false},
		{"Vocab 2", 2, 8, 2, 1, 3, true},
		{"Vocab 64", 64, 8, 2, 1, 3, true},
		{"Vocab 65", 65, 8, 2, 1, 3, false},
		{"Vocab below 0", -2, 8, 2, 1, 3, false},
		{"Dim 0", 32, 0, 2, 5, 3, false},
		{"Dim 1", 32, 1, 2, 5, 3, true},
		{"Dim 16", 32, 16, 2, 5, 3, true},
		{"Dim 17", 32, 17, 2, 5, 3, false},
		{"Layers 0", 32, 8, 0, 5, 3, false},
		{"Layers 1", 32, 8, 1, 5, 3, true},
		{"Layers 4", 32, 8, 4, 5, 3, true},
		{"Layers 5", 32, 8, 5, 5, 3, false},
		{"Top 0", 32, 8, 2, 0, 3, false},
		{"Top 1", 32, 8, 2, 1, 3, true},
		{"Top one less than Vocab", 32, 8, 2, 31, 3, true},
		{"Top Vocab", 32, 8, 2, 32, 3, true},
		{"Top one more than Vocab", 32, 8, 2, 33, 3, false},
		{"Top 64 of fewer", 63, 8, 2, 64, 3, false},
		{"Top 2 of 2", 2, 8, 2, 2, 3, true},
		{"Top 3 of 2", 2, 8, 2, 3, 3, false},
		{"Top 65 of 65", 65, 8, 2, 65, 3, false},
		{"Top below 0", 32, 8, 2, -1, 3, false},
		{"Heat -1", 32, 8, 2, 5, -1, false},
		{"Heat 0", 32, 8, 2, 5, 0, true},
		{"Heat 8", 32, 8, 2, 5, 8, true},
		{"Heat 9", 32, 8, 2, 5, 9, false},
		{"all beyond", 65, 17, 5, 66, 9, false},
		{"all ends", math.MaxInt, math.MaxInt, math.MaxInt, math.MaxInt, math.MaxInt, false},
		{"all other ends", math.MinInt, math.MinInt, math.MinInt, math.MinInt, math.MinInt, false},
	} {
		for _, seed := range seeds() {
			checkMay(t, edge.name, api.Config{Seed: seed, Vocab: edge.vocab, Dim: edge.dim, Layers: edge.layers, Top: edge.top, Heat: edge.heat}, edge.may)
		}
	}
}

// TestByWords (P9.1): every table of models of all sizes is what the chapter's words tell.
func TestByWords(t *testing.T) {
	for _, c := range configs() {
		checkWhole(t, mustNew(t, c), c)
	}
	for _, seed := range seeds() {
		checkWhole(t, mustNew(t, greatest(seed)), greatest(seed))
	}
}

// TestReckoned (P9.1): weights that were reckoned elsewhere, with whole numbers of any size.
func TestReckoned(t *testing.T) {
	ends := mustNew(t, api.Config{Seed: math.MaxUint64, Vocab: 64, Dim: 3, Layers: 4, Top: 1})
	nought := mustNew(t, api.Config{Seed: 0, Vocab: 5, Dim: 3, Layers: 4, Top: 1})
	three := mustNew(t, greatest(3))
	for name, row := range map[string]struct{ got, want []int64 }{
		"token 0 of seed 0":          {nought.Token(0), []int64{19982, 26373, -14795}},
		"token 4 of seed 0":          {nought.Token(4), []int64{50881, 57996, -48988}},
		"place 0 of seed 0":          {nought.Place(0), []int64{-7333, -9311, 12422}},
		"place 1 of seed 0":          {nought.Place(1), []int64{11487, 9560, -5253}},
		"place 255 of seed 0":        {nought.Place(255), []int64{7574, 2629, 12252}},
		"token 63 of the last seed":  {ends.Token(63), []int64{-41447, 31389, -22553}},
		"place 0 of the last seed":   {ends.Place(0), []int64{-93, -9028, -6644}},
		"place 255 of the last seed": {ends.Place(255), []int64{4356, 11068, 2995}},
		"Query 0 of the last seed":   {ends.Rows(0, Query)[1][:2], []int64{44441, 12963}},
		"Query 1 of the last seed":   {ends.Rows(1, Query)[0][:2], []int64{-20834, -16999}},
		"Down 3 of the last seed":    {ends.Rows(3, Down)[1][:2], []int64{-47163, 19035}},
		"token 4 of seed 3":          {three.Token(4), []int64{-21582, -58782, 44013, 48613, -17274, -19009, 23539, -31997, 30512, -62956, 41450, -515, -11395, -16200, -4097, -4543}},
		"place 255 of seed 3":        {three.Place(255), []int64{-13824, -12992, -14727, 7363, 12249, -12764, -9879, 6794, 7306, 2749, -3124, 5740, 15147, -12833, -15468, -1660}},
		"Down 3, last row, seed 3":   {three.Rows(3, Down)[15], []int64{-61538, -51941, 52776, -40527, 49336, -26933, 929, 39791, 44884, 21944, 29070, 2592, 45950, 28125, 37509, -27700}},
	} {
		if !slices.Equal(row.got, row.want) {
			t.Errorf("%s: %v, want %v", name, row.got, row.want)
		}
	}
	two := mustNew(t, api.Config{Seed: 0, Vocab: 2, Dim: 2, Layers: 2, Top: 2, Heat: 8})
	if got := two.Rows(0, Query); !sameRows(got, [][]int64{{56399, 41140}, {-39073, 41119}}) {
		t.Error(got)
	}
	if got := two.Rows(0, Down); !sameRows(got, [][]int64{{54447, -13834}, {-26595, -15482}}) {
		t.Error(got)
	}
	if got := two.Rows(1, Query); !sameRows(got, [][]int64{{-58042, 20494}, {39865, -48700}}) {
		t.Error(got)
	}
}

// TestExample (P9.1): a model of 2 tokens and 1 number has rows of one weight.
func TestExample(t *testing.T) {
	m := mustNew(t, least(9))
	for token := range 2 {
		if got := m.Token(token); len(got) != 1 {
			t.Errorf("Token(%d) = %v", token, got)
		}
	}
	for place := range 256 {
		if got := m.Place(place); len(got) != 1 {
			t.Errorf("Place(%d) = %v", place, got)
		}
	}
	for which := range 6 {
		if got := m.Rows(0, which); len(got) != 1 || len(got[0]) != 1 {
			t.Errorf("Rows(0, %d) = %v", which, got)
		}
	}
	checkNothing(t, m, append(beyond(), 2, 3, 64), beyond(), append(beyond(), 1, 2, 3, 4), append(beyond(), 6, 7))
}

// TestNothingBeyond (P9.1): of a token, a place, a layer and a kind that is none there is nothing, and of the first and the last there is something.
func TestNothingBeyond(t *testing.T) {
	for _, c := range configs() {
		m := mustNew(t, c)
		checkNothing(t, m, append(beyond(), c.Vocab, c.Vocab+1, 64), beyond(), append(beyond(), c.Layers, c.Layers+1), append(beyond(), 6, 7, 12))
		for _, got := range [][]int64{m.Token(0), m.Token(c.Vocab - 1), m.Place(0), m.Place(255)} {
			if len(got) != c.Dim {
				t.Fatalf("%+v: %d numbers", c, len(got))
			}
		}
		for _, got := range [][][]int64{m.Rows(0, 0), m.Rows(c.Layers-1, 0), m.Rows(0, 5), m.Rows(c.Layers-1, 5)} {
			if len(got) != c.Dim || len(got[0]) != c.Dim || len(got[c.Dim-1]) != c.Dim {
				t.Fatalf("%+v: %d rows", c, len(got))
			}
		}
	}
}

// TestNotMade (P9.1, R5): a nil model, and one that New did not give, have the zero Config, and nothing.
func TestNotMade(t *testing.T) {
	refused, _ := New(api.Config{Seed: 1, Vocab: 1, Dim: 1, Layers: 1, Top: 1})
	all := append(beyond(), 0, 1, 2, 3, 4, 5, 63, 64, 255)
	for name, m := range map[string]*Model{"nil": nil, "new": new(Model), "literal": {}, "refused": refused} {
		if got := m.Config(); got != (api.Config{}) {
			t.Errorf("%s: Config() = %+v", name, got)
		}
		checkNothing(t, m, all, all, all, all)
	}
}

// eachRow hands on every row of a model.
func eachRow(m *Model, do func(row []int64, ofPlace bool)) {
	c := m.Config()
	for token := range c.Vocab {
		do(m.Token(token), false)
	}
	for place := range 256 {
		do(m.Place(place), true)
	}
	for layer := range c.Layers {
		for which := range 6 {
			for _, row := range m.Rows(layer, which) {
				do(row, false)
			}
		}
	}
}

// TestBounds (P9.3): weights are from -One to One, those of places within a fourth of it; both bounds are met.
func TestBounds(t *testing.T) {
	lowest, highest := map[bool]int64{}, map[bool]int64{}
	all := seeds()
	for seed := range uint64(200) {
		all = append(all, seed)
	}
	for _, seed := range all {
		eachRow(mustNew(t, greatest(seed)), func(row []int64, ofPlace bool) {
			lowest[ofPlace] = min(lowest[ofPlace], slices.Min(row))
			highest[ofPlace] = max(highest[ofPlace], slices.Max(row))
		})
	}
	if lowest[false] != -one || highest[false] != one {
		t.Errorf("weights from %d to %d", lowest[false], highest[false])
	}
	if lowest[true] != -one/4 || highest[true] != one/4 {
		t.Errorf("weights of places from %d to %d", lowest[true], highest[true])
	}
}

// TestWeightsAtBounds (P9.3): weights of which it was reckoned elsewhere that they are at a bound.
func TestWeightsAtBounds(t *testing.T) {
	for name, got := range map[string]int64{
		"token":  mustNew(t, greatest(9)).Token(25)[14],
		"place":  4 * mustNew(t, greatest(21)).Place(189)[9],
		"Value":  mustNew(t, greatest(17)).Rows(0, Value)[11][11],
		"Down 2": mustNew(t, greatest(22)).Rows(2, Down)[1][6],
	} {
		if got != -one {
			t.Errorf("%s: %d", name, got)
		}
	}
	for name, got := range map[string]int64{
		"place":  4 * mustNew(t, greatest(6)).Place(158)[0],
		"Query":  mustNew(t, greatest(14)).Rows(0, Query)[15][14],
		"Down 1": mustNew(t, greatest(51)).Rows(1, Down)[11][13],
		"Up 2":   mustNew(t, greatest(78)).Rows(2, Up)[2][4],
		"Out 3":  mustNew(t, greatest(118)).Rows(3, Out)[2][2],
		"Value":  mustNew(t, greatest(191)).Rows(0, Value)[1][10],
	} {
		if got != one {
			t.Errorf("%s: %d", name, got)
		}
	}
}

// TestLesserHasSameRows (P9.2): a lesser Vocab, or fewer layers, have the same rows, as far as they go.
func TestLesserHasSameRows(t *testing.T) {
	for _, seed := range []uint64{0, 8, math.MaxUint64} {
		for dim := 1; dim <= 16; dim++ {
			whole := greatest(seed)
			whole.Dim = dim
			for vocab := 2; vocab <= 64; vocab++ {
				c := whole
				c.Vocab, c.Top = vocab, vocab
				checkSameRows(t, mustNew(t, whole), mustNew(t, c))
			}
			for layers := 1; layers <= 4; layers++ {
				c := whole
				c.Layers = layers
				checkSameRows(t, mustNew(t, whole), mustNew(t, c))
			}
		}
	}
}

// checkSameRows tells where one model, which has no more tokens and layers than another, has other rows than that.
func checkSameRows(t *testing.T, whole, part *Model) {
	t.Helper()
	c := part.Config()
	for token := range c.Vocab {
		if !slices.Equal(part.Token(token), whole.Token(token)) {
			t.Fatalf("%+v: the token %d is another one", c, token)
		}
	}
	// Every eighth place, and the last: the others are told by the same draws.
	for place := 7; place < 256; place += 8 {
		if !slices.Equal(part.Place(place), whole.Place(place)) {
			t.Fatalf("%+v: the place %d is another one", c, place)
		}
	}
	for layer := range c.Layers {
		for which := range 6 {
			if !sameRows(part.Rows(layer, which), whole.Rows(layer, which)) {
				t.Fatalf("%+v: the table %d of the layer %d is another one", c, which, layer)
			}
		}
	}
}

// numbersOf are all weights of a model, in order.
func numbersOf(m *Model) []int64 {
	var all []int64
	eachRow(m, func(row []int64, _ bool) { all = append(all, row...) })
	return all
}

// TestHangsOn (P9.2): Top and Heat play no part in a model's tables, and nor do other models; the seed does.
func TestHangsOn(t *testing.T) {
	base := api.Config{Seed: 12, Vocab: 20, Dim: 6, Layers: 3, Top: 1, Heat: 0}
	want := numbersOf(mustNew(t, base))
	if len(want) != 20*6+256*6+3*6*36 {
		t.Fatal(len(want))
	}
	for top := 1; top <= 20; top++ {
		for heat := 0; heat <= 8; heat++ {
			c := base
			c.Top, c.Heat = top, heat
			m := mustNew(t, c)
			if m.Config() != c || !slices.Equal(numbersOf(m), want) {
				t.Fatalf("%+v has other tables, or another configuration", c)
			}
		}
	}
	for _, seed := range seeds() {
		c := base
		c.Seed = seed
		if slices.Equal(numbersOf(mustNew(t, c)), want) {
			t.Errorf("the seed %d has the same tables", seed)
		}
	}
}

// TestTablesUnlike (P9.1): no two tables of a model are alike, and no two rows of one.
func TestTablesUnlike(t *testing.T) {
	c := greatest(4)
	var rows [][]int64
	eachRow(mustNew(t, c), func(row []int64, _ bool) { rows = append(rows, row) })
	slices.SortFunc(rows, slices.Compare[[]int64])
	if n := len(slices.CompactFunc(rows, slices.Equal[[]int64])); n != 64+256+4*6*16 {
		t.Errorf("%d rows", n)
	}
}

// spoil writes over a list, and into the room behind it, if there is any.
func spoil(l []int64) {
	for i := range l {
		l[i] = -7
	}
	_ = append(l, -8, -8, -8)
	room := l[:cap(l)]
	for i := range room {
		room[i] = -9
	}
}

// TestWrittenOver (P9.4, R4): what was answered may be written over, and is answered again as it was, by this model and by others.
func TestWrittenOver(t *testing.T) {
	for _, c := range []api.Config{least(5), greatest(5), {Seed: 6, Vocab: 9, Dim: 7, Layers: 2, Top: 3, Heat: 2}} {
		m, beside := mustNew(t, c), mustNew(t, c)
		eachRow(m, func(row []int64, _ bool) { spoil(row) })
		for layer := range c.Layers {
			for which := range 6 {
				rows := m.Rows(layer, which)
				for i := range rows {
					rows[i] = nil
				}
				_ = append(rows, []int64{1})
			}
		}
		config := m.Config()
		config.Dim, config.Vocab = 3, 3
		checkWhole(t, m, c)
		checkWhole(t, beside, c)
	}
}

// TestRowsApart (P9.4): no two rows of one answer share memory, and none shares any with another answer.
func TestRowsApart(t *testing.T) {
	c := greatest(11)
	m := mustNew(t, c)
	for at := range 16 {
		rows, want := m.Rows(2, Key), wantRows(c, 2, Key)
		other := m.Rows(2, Key)
		spoil(rows[at])
		for i := range rows {
			if i != at && !slices.Equal(rows[i], want[i]) {
				t.Fatalf("the row %d was turned by the row %d", i, at)
			}
		}
		if !sameRows(other, want) {
			t.Fatal("another answer was turned")
		}
	}
	first, second := m.Token(3), m.Token(3)
	spoil(first)
	if !slices.Equal(second, wantToken(c, 3)) {
		t.Error(second)
	}
	first, second = m.Place(3), m.Place(3)
	spoil(first)
	if !slices.Equal(second, wantPlace(c, 3)) {
		t.Error(second)
	}
}

// TestConfigHandedIn (R4): a model has the configuration that it was handed, whatever becomes of that.
func TestConfigHandedIn(t *testing.T) {
	c := api.Config{Seed: 6, Vocab: 9, Dim: 7, Layers: 2, Top: 3, Heat: 2}
	m, was := mustNew(t, c), c
	c.Seed, c.Dim = 7, 2
	checkWhole(t, m, was)
}

// TestAnyOrder (R3, R5): what is answered hangs on no call ahead.
func TestAnyOrder(t *testing.T) {
	c := greatest(31)
	m := mustNew(t, c)
	for i := range 400 {
		token, place, layer, which := i*37%66-1, i*101%258-1, i*7%6-1, i*5%8-1
		if got := m.Rows(layer, which); layer >= 0 && layer < 4 && which >= 0 && which < 6 {
			if !sameRows(got, wantRows(c, layer, which)) {
				t.Fatalf("Rows(%d, %d) = %v", layer, which, got)
			}
		} else if len(got) != 0 {
			t.Fatalf("Rows(%d, %d) = %v", layer, which, got)
		}
		if got := m.Place(place); place >= 0 && place < 256 && !slices.Equal(got, wantPlace(c, place)) {
			t.Fatalf("Place(%d) = %v", place, got)
		}
		if got := m.Token(token); token >= 0 && token < 64 && !slices.Equal(got, wantToken(c, token)) {
			t.Fatalf("Token(%d) = %v", token, got)
		}
	}
}
