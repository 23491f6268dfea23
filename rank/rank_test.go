package rank

import (
	"math"
	"slices"
	"testing"
)

// open are candidates that may all be asked.
func open(l ...Candidate) []Candidate {
	for n := range l {
		l[n].Open = true
	}
	return l
}

// arranged are all orders of a list.
func arranged(l []Candidate) [][]Candidate {
	if len(l) < 2 {
		return [][]Candidate{l}
	}
	var all [][]Candidate
	for n := range l {
		rest := slices.Delete(slices.Clone(l), n, n+1)
		for _, order := range arranged(rest) {
			all = append(all, append([]Candidate{l[n]}, order...))
		}
	}
	return all
}

// TestExample: the chapter's, whichever of the two stands first.
func TestExample(t *testing.T) {
	for _, w := range []Weights{{}, {Known: 1, Load: 2, Bound: 3}, {Known: 1, Load: 2, Bound: 3, Place: 4}} {
		for _, l := range arranged(open(Candidate{Replica: 5, Place: 1, Known: 9, Load: 2}, Candidate{Replica: 6, Place: 0, Known: 9, Load: 2})) {
			b := book{l, w}
			b.wantOrder(t, 6, 5)
			b.wantBest(t, 3, 6, true)
			b.wantSecond(t, 3, []uint64{6}, 5, true)
			b.check(t)
		}
	}
}

// TestOrder (P19.1): the greatest mark first; each weight counts for itself, and they count together.
func TestOrder(t *testing.T) {
	l := open(
		Candidate{Replica: 1, Known: 8, Load: 4, Place: 2},
		Candidate{Replica: 2, Known: 4, Load: 1, Place: 1},
		Candidate{Replica: 3, Known: 0, Load: 0, Place: 3, Bound: true},
		Candidate{Replica: 4, Known: 6, Load: 3, Place: 0},
	)
	for _, s := range []struct {
		w    Weights
		want []uint64
	}{
		{Weights{}, []uint64{4, 2, 1, 3}},
		{Weights{Known: 1}, []uint64{1, 4, 2, 3}},
		{Weights{Load: 1}, []uint64{3, 2, 4, 1}},
		{Weights{Bound: 1}, []uint64{3, 4, 2, 1}},
		{Weights{Place: 1}, []uint64{4, 2, 1, 3}},
		{Weights{Known: 1, Load: 1}, []uint64{1, 4, 2, 3}},
		{Weights{Known: 1, Load: 2}, []uint64{2, 4, 1, 3}},
		{Weights{Known: 1, Bound: 7, Place: 1}, []uint64{4, 1, 3, 2}},
		{Weights{Known: 2, Load: 1, Bound: 20, Place: 3}, []uint64{3, 4, 1, 2}},
		{Weights{Known: -5, Load: 1}, []uint64{3, 2, 4, 1}},
		{Weights{Known: math.MinInt64, Load: math.MinInt64, Bound: math.MinInt64, Place: math.MinInt64}, []uint64{4, 2, 1, 3}},
		{Weights{Known: most + 1, Load: most}, []uint64{1, 4, 2, 3}},
		{Weights{Known: math.MaxInt64, Load: math.MaxInt64}, []uint64{1, 4, 2, 3}},
	} {
		for _, order := range arranged(l) {
			b := book{order, s.w}
			b.wantOrder(t, s.want...)
			b.check(t)
		}
	}
}

// TestBeyondBounds (P19.1): what counts as the same in a mark, as it is beyond the bounds, makes like marks, of which the lesser place comes first.
func TestBeyondBounds(t *testing.T) {
	w := Weights{Known: 1, Load: 1, Bound: 1, Place: 1}
	for _, l := range [][]Candidate{
		{{Replica: 9, Known: most}, {Replica: 3, Known: most + 1, Place: 0, Bound: true, Load: 1}, {Replica: 5, Known: math.MaxInt, Bound: true, Place: 1}},
		{{Replica: 9, Load: 0, Place: 0}, {Replica: 2, Load: -1, Bound: true, Place: 1}, {Replica: 1, Load: math.MinInt, Known: 2, Place: 2}},
		{{Replica: 9, Load: most}, {Replica: 2, Load: most + 1, Bound: true, Place: 1}, {Replica: 1, Load: math.MaxInt, Known: 2, Place: 2}},
		{{Replica: 9, Known: 0}, {Replica: 2, Known: -1, Bound: true, Place: 1}, {Replica: 1, Known: math.MinInt, Bound: true, Place: 1}},
	} {
		for _, order := range arranged(open(l...)) {
			b := book{order, w}
			if got := Order(order, w); len(got) != 3 || markOf(l[0], w) != markOf(l[1], w) || markOf(l[0], w) != markOf(l[2], w) {
				t.Fatalf("Order(%v, %v) is %v: the marks are not alike", order, w, got)
			}
			b.check(t)
		}
	}
}

// TestLikeMarks (P19.1): of like marks the lesser place comes first, whatever the numbers; also of places that count as the same in a mark.
func TestLikeMarks(t *testing.T) {
	for _, s := range []struct {
		w      Weights
		places []int // of the numbers from 10 downward, in the order that is asked for
	}{
		{Weights{}, []int{0, 1, 2, 3}},
		{Weights{}, []int{math.MinInt, -1, 0, math.MaxInt}},
		{Weights{}, []int{most - 1, most, most + 1, most + 2}},
		{Weights{Known: 5, Load: 6, Bound: 7}, []int{1, 1 << 20, 1 << 31, 1 << 40}},
		{Weights{Place: 3}, []int{math.MinInt, math.MinInt + 1, -most, 0}},
		{Weights{Place: 3}, []int{-3, -2, -1, 0}},
		{Weights{Place: most}, []int{most, most + 1, 1 << 40, math.MaxInt}},
		{Weights{Place: -1}, []int{-1, 0, 1, 2}},
	} {
		var l []Candidate
		for n, place := range s.places {
			l = append(l, Candidate{Replica: uint64(10 - n), Known: 4, Load: 2, Place: place, Open: true})
		}
		for _, order := range arranged(l) {
			b := book{order, s.w}
			b.wantOrder(t, 10, 9, 8, 7)
			b.check(t)
		}
	}
}

// TestLikePlaces (P19.1): of like marks and places the lesser number comes first.
func TestLikePlaces(t *testing.T) {
	for _, w := range []Weights{{}, {Known: 1, Load: 1, Bound: 1, Place: 1}} {
		for _, place := range []int{math.MinInt, -1, 0, 7, math.MaxInt} {
			var l []Candidate
			for _, number := range []uint64{0, 1, 1<<63 - 1, 1 << 63, greatest} {
				l = append(l, Candidate{Replica: number, Known: 4, Load: 3, Place: place, Open: true})
			}
			for _, order := range arranged(l) {
				b := book{order, w}
				b.wantOrder(t, 0, 1, 1<<63-1, 1<<63, greatest)
				b.wantBest(t, 3, 0, true)
				b.check(t)
			}
		}
	}
}

// TestWhollyAlike (P19.1, P19.2): of like marks, places and numbers the one that stands first comes first: by its load Best tells.
func TestWhollyAlike(t *testing.T) {
	for _, s := range []struct {
		w       Weights
		a, b, c Candidate // a and b are wholly alike, c comes behind
	}{
		{Weights{}, Candidate{Replica: 5, Load: 1}, Candidate{Replica: 5, Load: 9}, Candidate{Replica: 6, Place: 1, Load: 2}},
		{Weights{Known: 1, Load: 1}, Candidate{Replica: 5, Load: 1, Known: 1}, Candidate{Replica: 5, Load: 9, Known: 9}, Candidate{Replica: 6, Place: 1, Load: 2}},
		{Weights{Load: 1, Bound: 8}, Candidate{Replica: 5, Load: 1}, Candidate{Replica: 5, Load: 9, Bound: true}, Candidate{Replica: 6, Load: 2}},
		{Weights{Load: 1}, Candidate{Replica: 5, Load: -9}, Candidate{Replica: 5, Load: 0}, Candidate{Replica: 6, Place: 1, Load: -2}},
		{Weights{Load: 1}, Candidate{Replica: 5, Load: most}, Candidate{Replica: 5, Load: most + 9}, Candidate{Replica: 6, Place: 1, Load: most + 2}},
	} {
		limit := s.b.Load // a's load and c's are below it, b's is not
		for _, l := range arranged(open(s.a, s.b, s.c)) {
			b, want := book{l, s.w}, uint64(5)
			if slices.IndexFunc(l, func(c Candidate) bool { return c.Load == s.b.Load }) < slices.IndexFunc(l, func(c Candidate) bool { return c.Load == s.a.Load }) {
				want = 6
			}
			b.wantOrder(t, 5, 6)
			b.wantBest(t, limit, want, true)
			b.wantSecond(t, limit, []uint64{6}, 5, true)
			b.check(t)
		}
	}
	// So it is with many, too.
	var l []Candidate
	for n := range 500 {
		l = append(l, Candidate{Replica: uint64(n % 7), Load: n, Open: true})
	}
	for n := range 7 {
		b := book{l[n:], Weights{Known: 3}}
		b.wantOrder(t, 0, 1, 2, 3, 4, 5, 6)
		b.wantBest(t, n+1, uint64(n), true)
		b.wantBest(t, n, 0, true)
	}
}

// TestSeveralOfOneNumber (P19.1, P19.2): of several of one number the one that comes first in the order counts alone, of those that may be asked.
func TestSeveralOfOneNumber(t *testing.T) {
	w := Weights{Known: 1}
	other := Candidate{Replica: 6, Known: 5, Load: 5, Open: true}
	for _, s := range []struct {
		name        string
		first, then Candidate // of the number 5
		want        []uint64
		best        uint64 // with the limit 6
	}{
		{"the first has the greater mark", Candidate{Known: 9, Open: true}, Candidate{Known: 1, Open: true}, []uint64{5, 6}, 5},
		{"the first has the lesser mark", Candidate{Known: 1, Open: true}, Candidate{Known: 9, Open: true}, []uint64{5, 6}, 5},
		{"both come behind", Candidate{Known: 1, Open: true}, Candidate{Known: 2, Open: true}, []uint64{6, 5}, 6},
		{"both come ahead", Candidate{Known: 8, Open: true}, Candidate{Known: 7, Open: true}, []uint64{5, 6}, 5},
		{"the first may not be asked", Candidate{Known: 9}, Candidate{Known: 1, Open: true}, []uint64{6, 5}, 6},
		{"the first may not be asked, and has the lesser mark", Candidate{Known: 1}, Candidate{Known: 9, Open: true}, []uint64{5, 6}, 5},
		{"the first may be asked alone", Candidate{Known: 9, Open: true}, Candidate{Known: 99}, []uint64{5, 6}, 5},
		{"the first may be asked alone, and has the lesser mark", Candidate{Known: 1, Open: true}, Candidate{Known: 9}, []uint64{6, 5}, 6},
		{"neither may be asked", Candidate{Known: 9}, Candidate{Known: 9}, []uint64{6}, 6},
		{"the greater mark has the greater load", Candidate{Known: 9, Load: 6, Open: true}, Candidate{Known: 1, Load: 1, Open: true}, []uint64{5, 6}, 6},
		{"the lesser place has the greater load", Candidate{Known: 7, Load: 6, Open: true}, Candidate{Known: 7, Load: 1, Place: 1, Open: true}, []uint64{5, 6}, 6},
	} {
		s.first.Replica, s.then.Replica = 5, 5
		for _, l := range [][]Candidate{{s.first, s.then, other}, {s.first, other, s.then}, {other, s.first, s.then}} {
			b := book{l, w}
			if got := Order(l, w); !slices.Equal(got, s.want) {
				t.Fatalf("%s: Order is %v, want %v", s.name, got, s.want)
			}
			b.wantBest(t, 6, s.best, true)
			b.wantSecond(t, 6, []uint64{5}, 6, true)
			b.check(t)
			b.checkSecond(t, 1, 6, 7)
		}
	}
}

// TestMayNotBeAsked (P19.1, P19.2, P19.4): those that may not be asked play no part.
func TestMayNotBeAsked(t *testing.T) {
	w := Weights{Known: 1, Load: 1, Bound: 1, Place: 1}
	l := []Candidate{{Replica: 1, Known: 100}, {Replica: 2, Known: 5, Load: 3, Open: true}, {Replica: 3, Bound: true}, {Replica: 4, Known: 9, Load: 8, Open: true}, {Replica: 5, Load: 100}}
	for _, order := range arranged(l) {
		b := book{order, w}
		b.wantOrder(t, 2, 4)
		b.wantBest(t, 4, 2, true)
		b.wantBest(t, 1, 2, true)
		b.wantBest(t, 0, 2, true)
		b.wantSecond(t, 4, []uint64{2}, 4, true)
		b.wantSecond(t, 4, []uint64{2, 4}, 0, false)
	}
	none := book{[]Candidate{{Replica: 1, Known: 100}, {Replica: 0}, {Replica: greatest, Bound: true}}, w}
	none.wantOrder(t)
	for _, limit := range edges() {
		none.wantBest(t, limit, 0, false)
		none.wantSecond(t, limit, nil, 0, false)
		none.wantSecond(t, limit, []uint64{0}, 0, false)
		none.wantSecond(t, limit, []uint64{7}, 0, false)
	}
}

// TestNoCandidates (P19.1, P19.2, R6): a nil list, and an empty one.
func TestNoCandidates(t *testing.T) {
	for _, l := range [][]Candidate{nil, {}, make([]Candidate, 0, 5)} {
		for _, w := range []Weights{{}, {most, most, most, most}, {-1, -1, -1, -1}} {
			b := book{l, w}
			b.wantOrder(t)
			for _, limit := range edges() {
				b.wantBest(t, limit, 0, false)
				b.wantSecond(t, limit, nil, 0, false)
				b.wantSecond(t, limit, []uint64{}, 0, false)
				b.wantSecond(t, limit, []uint64{0, 1}, 0, false)
			}
		}
	}
}

// TestOneCandidate (P19.1, P19.2): one that may be asked is told, whatever its numbers, the weights and the limit.
func TestOneCandidate(t *testing.T) {
	for _, number := range []uint64{0, 1, 1 << 63, greatest} {
		for _, n := range edges() {
			for _, weight := range edges() {
				b := book{open(Candidate{Replica: number, Known: n, Load: n, Bound: n > 0, Place: n}), Weights{int64(weight), int64(weight), int64(weight), int64(weight)}}
				b.wantOrder(t, number)
				b.wantBest(t, weight, number, true)
				b.wantSecond(t, weight, nil, number, true)
				b.wantSecond(t, weight, []uint64{number + 1, number - 1}, number, true)
				b.wantSecond(t, weight, []uint64{number}, 0, false)
			}
		}
	}
}

// TestBest (P19.2): the first one of the order whose load is below the limit, else the first one of all.
func TestBest(t *testing.T) {
	l := open(
		Candidate{Replica: 1, Known: 9, Load: 7},
		Candidate{Replica: 2, Known: 8, Load: 5},
		Candidate{Replica: 3, Known: 7, Load: 6},
		Candidate{Replica: 4, Known: 6, Load: 3},
		Candidate{Replica: 0, Known: 5, Load: 1},
	)
	for _, order := range arranged(l) {
		b := book{order, Weights{Known: 1}}
		for limit, want := range map[int]uint64{
			math.MinInt: 1, -1: 1, 0: 1, 1: 1, 2: 0, 3: 0, 4: 4, 5: 4, 6: 2, 7: 2, 8: 1, 9: 1, most: 1, math.MaxInt: 1,
		} {
			b.wantBest(t, limit, want, true)
			b.wantSecond(t, limit, nil, want, true)
			b.wantSecond(t, limit, []uint64{}, want, true)
			b.wantSecond(t, limit, []uint64{99, greatest}, want, true)
		}
	}
}

// TestBestLoads (P19.2): loads are held against the limit as they are, also those beyond the bounds of a mark's numbers.
func TestBestLoads(t *testing.T) {
	loads := []int{math.MinInt, math.MinInt + 1, -2, -1, 0, 1, most - 1, most, most + 1, most + 2, math.MaxInt - 1, math.MaxInt}
	for n, load := range loads {
		for m, other := range loads {
			b := book{open(Candidate{Replica: 8, Load: load}, Candidate{Replica: 9, Load: other, Place: 1}), Weights{Known: 1}}
			for k, limit := range loads {
				want := uint64(8)
				if n >= k && m < k {
					want = 9
				}
				b.wantBest(t, limit, want, true)
			}
		}
	}
}

// TestSecond (P19.2): the best one of those whose number is none of but.
func TestSecond(t *testing.T) {
	l := open(
		Candidate{Replica: 0, Known: 9, Load: 7},
		Candidate{Replica: 2, Known: 8, Load: 5},
		Candidate{Replica: greatest, Known: 7, Load: 6},
		Candidate{Replica: 4, Known: 6, Load: 3},
	)
	for _, order := range arranged(l) {
		b := book{order, Weights{Known: 1}}
		for _, s := range []struct {
			limit int
			but   []uint64
			want  uint64
		}{
			{8, nil, 0}, {7, nil, 2}, {5, nil, 4}, {3, nil, 0},
			{8, []uint64{0}, 2}, {8, []uint64{2}, 0}, {8, []uint64{0, 2}, greatest}, {8, []uint64{2, 0}, greatest}, {8, []uint64{greatest, 0, 2}, 4},
			{6, []uint64{0}, 2}, {6, []uint64{2}, 4}, {6, []uint64{4}, 2}, {6, []uint64{2, 4}, 0}, {6, []uint64{0, 2, 4}, greatest}, {6, []uint64{2, 4, 0, 2}, greatest},
			{5, []uint64{4}, 0}, {5, []uint64{4, 0}, 2}, {5, []uint64{0, 2}, 4}, {5, []uint64{0, 4, 2}, greatest},
			{0, []uint64{0, 0}, 2}, {-7, []uint64{0, 2}, greatest}, {math.MinInt, []uint64{2, 0, greatest}, 4}, {math.MaxInt, []uint64{0}, 2},
			{8, []uint64{1, 3, 5}, 0}, {8, []uint64{1, 0, 3, 0}, 2},
		} {
			b.wantSecond(t, s.limit, s.but, s.want, true)
		}
		for _, limit := range edges() {
			b.wantSecond(t, limit, []uint64{0, 2, 4, greatest}, 0, false)
			b.wantSecond(t, limit, []uint64{greatest, 4, 4, 2, 0, 77}, 0, false)
		}
		b.checkSecond(t, b.limits()...)
	}
}

// TestSecondOfOneNumber (P19.2): but leaves out all candidates of its numbers.
func TestSecondOfOneNumber(t *testing.T) {
	b := book{open(Candidate{Replica: 5, Known: 9}, Candidate{Replica: 6, Known: 3}, Candidate{Replica: 5, Known: 7}, Candidate{Replica: 5, Known: 1}), Weights{Known: 1}}
	b.wantSecond(t, 1, []uint64{5}, 6, true)
	b.wantSecond(t, 0, []uint64{5}, 6, true)
	b.wantSecond(t, 1, []uint64{6}, 5, true)
	b.wantSecond(t, 1, []uint64{5, 6}, 0, false)
}

// TestListsStay (R4): lists that are handed in, and the room behind them, stay as they are; an answer is the caller's.
func TestListsStay(t *testing.T) {
	for n := range 300 {
		room, w := drawnList(2, n), drawnWeights(2, n)
		numbers := drawnNumbers(2, n)
		l, but := room[:len(room)/2], numbers[:len(numbers)/2]
		roomAhead, numbersAhead := slices.Clone(room), slices.Clone(numbers)
		first := Order(l, w)
		ahead := slices.Clone(first)
		second := Order(l, w)
		for k := range second {
			second[k] = ^second[k]
		}
		Best(l, w, 5)
		Second(l, w, 5, but...)
		if !slices.Equal(room, roomAhead) || !slices.Equal(numbers, numbersAhead) {
			t.Fatalf("%v and %v became %v and %v", roomAhead, numbersAhead, room, numbers)
		}
		if !slices.Equal(first, ahead) || !slices.Equal(Order(l, w), ahead) {
			t.Fatalf("an order was %v, is %v, and is asked for %v", ahead, first, Order(l, w))
		}
	}
}

// TestMany (P19.1, P19.2, P19.6): lists of many candidates are ordered, also with as many numbers in but.
func TestMany(t *testing.T) {
	const count = 100000
	var l []Candidate
	var but []uint64
	for n := range count {
		l = append(l, Candidate{Replica: uint64(n), Known: n * 7919 % count, Load: count - n, Open: true})
		but = append(but, uint64(n))
	}
	w := Weights{Known: 1}
	order := Order(append(l, l...), w)
	if len(order) != count {
		t.Fatalf("there are %d", len(order))
	}
	for n, number := range order {
		if known := l[number].Known; known != count-1-n {
			t.Fatalf("at %d stands one with %d known", n, known)
		}
	}
	b := book{l, w}
	if got, ok := Best(b.list, w, 1); got != order[0] || !ok {
		t.Fatalf("the best is %d, %v", got, ok)
	}
	if got, ok := Best(b.list, w, 2); got != count-1 || !ok {
		t.Fatalf("the best with the least load is %d, %v", got, ok)
	}
	if got, ok := Second(b.list, w, 0, but[1:]...); got != 0 || !ok {
		t.Fatalf("the only one left is %d, %v", got, ok)
	}
	if got, ok := Second(b.list, w, 0, but...); got != 0 || ok {
		t.Fatalf("none is left, and told is %d, %v", got, ok)
	}
}
