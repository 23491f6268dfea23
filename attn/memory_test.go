package attn

import (
	"math"
	"slices"
	"testing"

	"garboard/model"
)

// textOf are the vectors of a text of so many places.
func textOf(m *model.Model, n int, seed uint64) [][]int64 {
	text := make([][]int64, n)
	for p := range text {
		token := int(uint64(some(seed+uint64(p))) % 64)
		text[p] = wantAdd(m.Token(token), m.Place(p))
	}
	return text
}

// told is what came of a text: what was made of each place, and the memory behind it.
type told struct {
	made     [][]int64
	memories []*Memory
}

// last is the memory behind all places; there is one.
func (l told) last() *Memory { return l.memories[len(l.memories)-1] }

// tell goes on from a memory through a text.
func tell(m *model.Model, c *Memory, text [][]int64) told {
	var l told
	for _, x := range text {
		var made []int64
		made, c = Through(m, c, x)
		l.made = append(l.made, made)
		l.memories = append(l.memories, c)
	}
	return l
}

// checkMemory tells where a memory has other numbers of places and layers than are wanted.
func checkMemory(t *testing.T, name string, c *Memory, places, layers int) {
	t.Helper()
	if c.Len() != places || c.Layers() != layers {
		t.Fatalf("%s: %d places and %d layers, want %d and %d", name, c.Len(), c.Layers(), places, layers)
	}
}

// checkSame tells where two memories are the same, or not, either way about.
func checkSame(t *testing.T, name string, c, d *Memory, want bool) {
	t.Helper()
	if c.Same(d) != want || d.Same(c) != want {
		t.Fatalf("%s: Same is %v and %v, want %v", name, c.Same(d), d.Same(c), want)
	}
}

// TestNew (P10.2): a memory of no places, of so many layers as there may be.
func TestNew(t *testing.T) {
	for layers, want := range map[int]int{
		math.MinInt: 0, -1 << 32: 0, -2: 0, -1: 0, 0: 0, 1: 1, 2: 2, 3: 3, 4: 4, 5: 4, 6: 4, 1 << 32: 4, math.MaxInt: 4,
	} {
		c := New(layers)
		if c == nil {
			t.Fatalf("New(%d) is nil", layers)
		}
		checkMemory(t, "new", c, 0, want)
		for other := -1; other <= 5; other++ {
			checkSame(t, "new ones", c, New(other), max(0, min(other, 4)) == want)
		}
	}
}

// TestThroughByWords (P10.2): place by place all layers make what the chapter's words tell, each of what the one ahead made, with the keys and values of the places ahead.
func TestThroughByWords(t *testing.T) {
	for _, m := range models(t) {
		layers := m.Config().Layers
		lists := make([]pair, layers)
		c := New(layers)
		for p, x := range textOf(m, 12, 500) {
			got, next := Through(m, c, x)
			want := x
			for layer := range layers {
				l := &lists[layer]
				made, key, value := wantStep(m, layer, want, l.keys, l.values)
				want, l.keys, l.values = made, append(l.keys, key), append(l.values, value)
			}
			if !slices.Equal(got, want) {
				t.Fatalf("%+v: place %d: %v, want %v", m.Config(), p, got, want)
			}
			checkMemory(t, "ahead", c, p, layers)
			checkMemory(t, "behind", next, p+1, layers)
			c = next
		}
	}
}

// TestThroughReckoned (P10.2): texts that were reckoned elsewhere, with whole numbers of any size.
func TestThroughReckoned(t *testing.T) {
	for _, text := range []struct {
		seed        uint64
		dim, layers int
		tokens      []int
		want        [][]int64
	}{
		{3, 2, 1, []int{0, 1, 4, 2, 2}, [][]int64{{107996, -11250}, {14462, -46316}, {-52040, -48208}, {47214, -8189}, {62698, -13785}}},
		{0, 5, 2, []int{0, 3, 1}, [][]int64{{-110794, -219247, 166630, 128612, 184874}, {54500, -104958, 178416, 161810, 269138}, {-190499, -65644, 127617, -86979, -86482}}},
		{9, 16, 4, []int{0, 63, 7, 7}, [][]int64{
			{-629748, 1827517, 1006318, -78801, -98699, 453202, 490628, 120890, 1231506, 1141073, -6450, -1113732, 492915, 591621, -298179, -958266},
			{-1235396, 2046196, 558982, -51825, 111189, -71059, 160459, 101075, 1555458, 1108036, -275408, -1106080, 468528, 383495, 18645, -558627},
			{-1075150, 1937168, 1040416, -50524, -43903, 93388, 276101, 203043, 1424950, 1058160, -261066, -1154591, 579071, 537594, -31424, -641781},
			{-978603, 2068908, 900191, 73142, -130006, -41214, 434883, 291207, 1483306, 1057848, -398033, -1121964, 605914, 416601, 215513, -577361},
		}},
	} {
		m := modelOf(t, text.seed, text.dim, text.layers)
		c := New(text.layers)
		for p, token := range text.tokens {
			var got []int64
			got, c = Through(m, c, wantAdd(m.Token(token), m.Place(p)))
			if !slices.Equal(got, text.want[p]) {
				t.Errorf("seed %d, place %d: %v, want %v", text.seed, p, got, text.want[p])
			}
		}
	}
}

// TestThroughAnyVector (P10.2): vectors of all lengths go through all layers, and take a place.
func TestThroughAnyVector(t *testing.T) {
	for _, m := range models(t) {
		layers := m.Config().Layers
		c := tell(m, New(layers), textOf(m, 3, 510)).last()
		for _, x := range vectors(m.Config().Dim) {
			got, next := Through(m, c, x)
			if want := min(len(x), m.Config().Dim); len(got) != want {
				t.Fatalf("%+v: %d numbers of %d, want %d", m.Config(), len(got), len(x), want)
			}
			checkMemory(t, "behind", next, 4, layers)
			checkSame(t, "cut", next.Cut(3), c, true)
		}
		made, next := Through(m, New(layers), nil)
		if len(made) != 0 {
			t.Error(made)
		}
		checkMemory(t, "of an empty vector", next, 1, layers)
	}
}

// TestThroughOtherLayers (P10.2): a memory of another number of layers than the model's is as an empty one; so is a nil one, and one that nobody made.
func TestThroughOtherLayers(t *testing.T) {
	for _, m := range models(t) {
		layers := m.Config().Layers
		x := textOf(m, 1, 520)[0]
		want, next := Through(m, New(layers), x)
		checkMemory(t, "behind", next, 1, layers)
		others := []*Memory{nil, new(Memory), New(-1), New(0), (*Memory)(nil).Cut(2)}
		for other := 1; other <= 4; other++ {
			of := modelOf(t, 31, m.Config().Dim, other)
			if l := tell(of, New(other), textOf(of, 5, 530)); other != layers {
				others = append(others, New(other), l.memories[0], l.last())
			}
		}
		for i, c := range others {
			got, memory := Through(m, c, x)
			if !slices.Equal(got, want) {
				t.Fatalf("%+v: memory %d: %v, want %v", m.Config(), i, got, want)
			}
			checkSame(t, "behind", memory, next, true)
		}
	}
}

// TestThroughOtherModel (P10.2): the keys and values of a memory count, whichever model they came of.
func TestThroughOtherModel(t *testing.T) {
	m, of := modelOf(t, 32, 4, 2), modelOf(t, 33, 6, 2)
	c := tell(of, New(2), textOf(of, 4, 540)).last()
	x := textOf(m, 1, 550)[0]
	got, next := Through(m, c, x)
	checkMemory(t, "behind", next, 5, 2)
	if alone, _ := Through(m, New(2), x); slices.Equal(got, alone) {
		t.Error("the places ahead count for nothing")
	}
}

// TestThroughNoModel (P10.2): no model has no layers: x stays as it is, and there is nothing to be kept.
func TestThroughNoModel(t *testing.T) {
	m := modelOf(t, 34, 4, 3)
	full := tell(m, New(3), textOf(m, 4, 560)).last()
	for name, none := range noModels() {
		for _, c := range []*Memory{nil, new(Memory), New(0), New(1), New(4), full} {
			for _, x := range vectors(4) {
				room := roomy(x)
				got, memory := Through(none, c, room)
				if !slices.Equal(got, x) {
					t.Fatalf("%s: %v, want %v", name, brief(got), brief(x))
				}
				spoil(got)
				checkRoom(t, room, x)
				checkMemory(t, name, memory, 0, 0)
				checkSame(t, name, memory, New(0), true)
			}
		}
	}
	checkMemory(t, "handed in", full, 4, 3)
}

// TestCut (P10.2): a memory of the first places: none of an n below 0, all of one beyond.
func TestCut(t *testing.T) {
	for _, m := range models(t) {
		layers := m.Config().Layers
		l := tell(m, New(layers), textOf(m, 6, 570))
		c := l.last()
		for n, want := range map[int]int{math.MinInt: 0, -7: 0, -1: 0, 0: 0, 1: 1, 2: 2, 3: 3, 4: 4, 5: 5, 6: 6, 7: 6, 256: 6, math.MaxInt: 6} {
			cut := c.Cut(n)
			checkMemory(t, "cut", cut, want, layers)
			for places, memory := range append([]*Memory{New(layers)}, l.memories...) {
				checkSame(t, "cut", cut, memory, places == want)
			}
			for again := -1; again < 8; again++ {
				checkSame(t, "cut again", cut.Cut(again), c.Cut(min(again, want)), true)
			}
		}
		checkMemory(t, "whole", c, 6, layers)
	}
}

// TestCutOfNoPlaces (P10.2): nothing can be cut off where there are no places.
func TestCutOfNoPlaces(t *testing.T) {
	for layers := range 5 {
		for _, n := range []int{math.MinInt, -1, 0, 1, 5, math.MaxInt} {
			checkMemory(t, "cut", New(layers).Cut(n), 0, layers)
			checkSame(t, "cut", New(layers).Cut(n), New(layers), true)
		}
	}
}

// TestSame (P10.2): whether both have the same: as many layers and places, and the same keys and values.
func TestSame(t *testing.T) {
	for _, m := range models(t) {
		layers, dim := m.Config().Layers, m.Config().Dim
		text := textOf(m, 5, 580)
		l := tell(m, New(layers), text)
		c := l.last()
		checkSame(t, "itself", c, c, true)
		checkSame(t, "one that was made as it was", c, tell(m, New(layers), text).last(), true)
		checkSame(t, "one of fewer places", c, l.memories[3], false)
		checkSame(t, "one of no places", c, New(layers), false)
		checkSame(t, "a nil one", c, nil, false)
		checkSame(t, "one that nobody made", c, new(Memory), false)
		more := modelOf(t, m.Config().Seed, dim, layers%4+1)
		checkSame(t, "one of other layers", c, tell(more, New(layers%4+1), text).last(), false)
		checkSame(t, "one of another model", c, tell(modelOf(t, 99, dim, layers), New(layers), text).last(), false)
		for at := range text {
			turned := slices.Clone(text)
			turned[at] = make([]int64, dim)
			checkSame(t, "one of another text", c, tell(m, New(layers), turned).last(), false)
		}
	}
}

// TestSameOfEach (P10.2): memories that differ in one number of one key or value alone, in any layer and place, are not the same.
func TestSameOfEach(t *testing.T) {
	m := modelOf(t, 35, 2, 3)
	text := textOf(m, 4, 590)
	c := tell(m, New(3), text).last()
	for layer := range 3 {
		for place := range 4 {
			for at := range 2 {
				for _, pick := range []func(p places) [][]int64{
					func(p places) [][]int64 { return p.keys },
					func(p places) [][]int64 { return p.values },
				} {
					other := tell(m, New(3), text).last()
					checkSame(t, "as it was", c, other, true)
					pick(other.layers[layer])[place][at]++
					checkSame(t, "turned", c, other, false)
				}
			}
		}
	}
}

// TestNilMemory (P10.2): a nil memory, and one that nobody made, are ones of no layers, in every call.
func TestNilMemory(t *testing.T) {
	m := modelOf(t, 36, 3, 2)
	for name, c := range map[string]*Memory{"nil": nil, "new": new(Memory), "no layers": New(0), "below 0": New(-1)} {
		checkMemory(t, name, c, 0, 0)
		for _, n := range []int{math.MinInt, -1, 0, 1, math.MaxInt} {
			checkMemory(t, name, c.Cut(n), 0, 0)
			checkSame(t, name, c.Cut(n), c, true)
		}
		checkSame(t, name, c, nil, true)
		checkSame(t, name, c, New(0), true)
		checkSame(t, name, c, New(1), false)
		_, next := Through(m, c, m.Token(1))
		checkMemory(t, name, next, 1, 2)
		checkSame(t, name, c, next, false)
		_, next = Through(nil, c, m.Token(1))
		checkSame(t, name, c, next, true)
	}
}

// TestCutAndMadeAnew (P10.3): at every place of a text what is cut off there and made anew is the same, to the end.
func TestCutAndMadeAnew(t *testing.T) {
	for _, m := range models(t) {
		layers := m.Config().Layers
		text := textOf(m, 14, 600)
		whole := tell(m, New(layers), text)
		for at := range len(text) + 1 {
			cut := whole.last().Cut(at)
			checkMemory(t, "cut", cut, at, layers)
			again := tell(m, cut, text[at:])
			for i, made := range again.made {
				if !slices.Equal(made, whole.made[at+i]) {
					t.Fatalf("%+v: cut at %d, place %d: %v, want %v", m.Config(), at, at+i, made, whole.made[at+i])
				}
				checkSame(t, "made anew", again.memories[i], whole.memories[at+i], true)
			}
		}
	}
}

// TestHangsOnAheadAlone (P10.3): texts that differ from a place on have the same made of all places ahead of it, and something else there.
func TestHangsOnAheadAlone(t *testing.T) {
	for _, m := range models(t) {
		layers, dim := m.Config().Layers, m.Config().Dim
		text := textOf(m, 8, 610)
		whole := tell(m, New(layers), text)
		for at := range text {
			turned := slices.Clone(text)
			for p := at; p < len(turned); p++ {
				turned[p] = ordinary(dim, 620+uint64(p), 18)
			}
			other := tell(m, New(layers), turned)
			for p := range at {
				if !slices.Equal(other.made[p], whole.made[p]) {
					t.Fatalf("%+v: turned at %d, place %d is another", m.Config(), at, p)
				}
				checkSame(t, "ahead", other.memories[p], whole.memories[p], true)
			}
			if slices.Equal(other.made[at], whole.made[at]) {
				t.Fatalf("%+v: turned at %d, and the same was made of it", m.Config(), at)
			}
			// A Norm of one number is 1 or -1, and has but two keys.
			if dim > 1 {
				checkSame(t, "turned", other.memories[at], whole.memories[at], false)
			}
			checkSame(t, "turned, and cut", other.last().Cut(at), whole.last().Cut(at), true)
		}
	}
}

// TestTwoWays (P10.4): two ways that go on from one memory, place by place in turns, leave it and each other as they were.
func TestTwoWays(t *testing.T) {
	for _, m := range models(t) {
		layers := m.Config().Layers
		text, left, right := textOf(m, 5, 630), textOf(m, 7, 640), textOf(m, 7, 650)
		for at := range len(text) + 1 {
			shared := tell(m, New(layers), text).last().Cut(at)
			wantLeft := tell(m, New(layers), slices.Concat(text[:at], left))
			wantRight := tell(m, New(layers), slices.Concat(text[:at], right))
			wantShared := wantRight.last().Cut(at)
			onLeft, onRight := shared, shared
			for i := range left {
				var madeLeft, madeRight []int64
				madeLeft, onLeft = Through(m, onLeft, left[i])
				madeRight, onRight = Through(m, onRight, right[i])
				if !slices.Equal(madeLeft, wantLeft.made[at+i]) || !slices.Equal(madeRight, wantRight.made[at+i]) {
					t.Fatalf("%+v: parted at %d, place %d: %v and %v", m.Config(), at, i, madeLeft, madeRight)
				}
				checkSame(t, "left", onLeft, wantLeft.memories[at+i], true)
				checkSame(t, "right", onRight, wantRight.memories[at+i], true)
				// A Norm of one number is 1 or -1, and has but two keys.
				if m.Config().Dim > 1 {
					checkSame(t, "left and right", onLeft, onRight, false)
				}
				checkMemory(t, "shared", shared, at, layers)
				checkSame(t, "shared", shared, wantShared, true)
			}
		}
	}
}

// TestStaysAsItIs (P10.4): every memory on the way of a text stays as it is, whatever is made of it: cut, gone on from often, and held against others.
func TestStaysAsItIs(t *testing.T) {
	for _, m := range models(t) {
		layers := m.Config().Layers
		text := textOf(m, 9, 660)
		l := tell(m, New(layers), text)
		for _, c := range l.memories {
			for n := range 10 {
				cut := c.Cut(n)
				for seed := range uint64(3) {
					tell(m, cut, textOf(m, 2, 670+seed))
				}
				c.Same(cut)
			}
		}
		want := tell(m, New(layers), text)
		for p := range text {
			checkMemory(t, "on the way", l.memories[p], p+1, layers)
			checkSame(t, "on the way", l.memories[p], want.memories[p], true)
		}
	}
}

// TestThroughWritesNothing (P10.4, R4): the vector that is handed in stays as it is and is not kept, and what is answered may be written over.
func TestThroughWritesNothing(t *testing.T) {
	for _, m := range models(t) {
		layers := m.Config().Layers
		text := textOf(m, 6, 680)
		want := tell(m, New(layers), text)
		c := New(layers)
		for p, x := range text {
			room := roomy(x)
			made, next := Through(m, c, room)
			checkRoom(t, room, x)
			if !slices.Equal(made, want.made[p]) {
				t.Fatalf("%+v: place %d: %v, want %v", m.Config(), p, made, want.made[p])
			}
			spoil(made)
			checkRoom(t, room, x)
			spoil(room)
			checkSame(t, "behind", next, want.memories[p], true)
			c = next
		}
	}
}

// TestStepKeepsNothing (R4): what Step answered, and lists that it was handed, may be written over, and the next call answers as ever.
func TestStepKeepsNothing(t *testing.T) {
	for _, m := range models(t) {
		dim := m.Config().Dim
		for _, p := range pairs(dim) {
			x := ordinary(dim, 690, 18)
			made, key, value := wantStep(m, 0, x, p.keys, p.values)
			handed := pair{roomyRows(p.keys), roomyRows(p.values)}
			first, second, third := Step(m, 0, x, handed.keys, handed.values)
			for _, l := range slices.Concat(handed.keys, handed.values) {
				spoil(l)
			}
			if !slices.Equal(first, made) || !slices.Equal(second, key) || !slices.Equal(third, value) {
				t.Fatal("an answer hangs on a list that was handed in")
			}
			checkStep(t, m, 0, x, p, made, key, value)
		}
	}
}

// TestLongText (P10.2, P10.3): a text as long as one may be, and longer.
func TestLongText(t *testing.T) {
	m := modelOf(t, 37, 4, 2)
	text := textOf(m, 256, 700)
	for range 20 {
		text = append(text, ordinary(4, uint64(len(text)), 18))
	}
	whole := tell(m, New(2), text)
	checkMemory(t, "whole", whole.last(), 276, 2)
	for _, at := range []int{0, 1, 100, 254, 255, 256, 275} {
		again := tell(m, whole.last().Cut(at), text[at:])
		if !slices.Equal(again.made[len(again.made)-1], whole.made[275]) {
			t.Errorf("cut at %d: something else was made", at)
		}
		checkSame(t, "made anew", again.last(), whole.last(), true)
	}
}
