package rank

import (
	"math"
	"slices"
	"testing"

	"garboard/rand"
)

// draws are numbers that hang on labels.
type draws struct{ *rand.Source }

// newDraws are the draws of a test's list.
func newDraws(test uint64, n int) draws { return draws{rand.New(rand.Derive(test, uint64(n)))} }

// below is a number from 0 up to below n.
func (d draws) below(n int) int { return int(d.Next() % uint64(n)) }

// number is one of a few, so that some are alike, or one at an edge, or any one; tame ones are the few alone.
func (d draws) number(tame bool) int {
	switch k := d.below(12); {
	case tame || k < 8:
		return d.below(5)
	case k < 10:
		all := edges()
		return all[d.below(len(all))]
	case k == 10:
		return d.below(most)
	}
	return int(d.Next())
}

// drawnWeights are those of a test's list.
func drawnWeights(test uint64, n int) Weights {
	d, tame := newDraws(test+1000, n), n%3 == 0
	return Weights{Known: int64(d.number(tame)), Load: int64(d.number(tame)), Bound: int64(d.number(tame)), Place: int64(d.number(tame))}
}

// candidate is one of a number.
func (d draws) candidate(number uint64, tame bool) Candidate {
	return Candidate{Replica: number, Load: d.number(tame), Known: d.number(tame), Bound: d.below(3) == 0, Place: d.number(tame), Open: d.below(4) > 0}
}

// replica is a number of a replica: one of a few, or one at an edge.
func (d draws) replica() uint64 {
	if d.below(5) > 0 {
		return uint64(d.below(12))
	}
	return []uint64{0, 1<<63 - 1, 1 << 63, greatest - 1, greatest}[d.below(5)]
}

// drawnList is a test's list: some candidates have one number.
func drawnList(test uint64, n int) []Candidate {
	d := newDraws(test, n)
	var l []Candidate
	for range d.below(14) {
		l = append(l, d.candidate(d.replica(), n%3 == 0))
	}
	return l
}

// drawnUnlike is a test's list of candidates of unlike numbers.
func drawnUnlike(test uint64, n int) []Candidate {
	var l []Candidate
	for _, c := range drawnList(test, n) {
		if !slices.ContainsFunc(l, func(d Candidate) bool { return d.Replica == c.Replica }) {
			l = append(l, c)
		}
	}
	return l
}

// drawnNumbers are numbers of replicas.
func drawnNumbers(test uint64, n int) []uint64 {
	d := newDraws(test+2000, n)
	var all []uint64
	for range d.below(9) {
		all = append(all, d.replica())
	}
	return all
}

// someLimits are limits at which some loads are below, and some are not.
func (d draws) someLimits() []int {
	return []int{math.MinInt, 0, d.below(6), d.number(false), math.MaxInt}
}

// TestDrawnLists (P19.1, P19.2): drawn lists and weights answer as the chapter's words say.
func TestDrawnLists(t *testing.T) {
	for n := range 3000 {
		b, d := book{drawnList(3, n), drawnWeights(3, n)}, newDraws(4, n)
		b.check(t)
		b.checkSecond(t, d.someLimits()...)
		but := drawnNumbers(3, n)
		for _, limit := range b.limits() {
			want, ok := b.without(but...).best(limit)
			b.wantSecond(t, limit, but, want, ok)
		}
	}
}

// TestDrawnGreatLists (P19.1, P19.2): so do ones of many candidates, of many numbers and of few.
func TestDrawnGreatLists(t *testing.T) {
	for n := range 60 {
		b, d := book{weights: drawnWeights(5, n)}, newDraws(5, n)
		for range 100 + d.below(300) {
			b.list = append(b.list, d.candidate(uint64(d.below(20+n*10)), n%3 == 0))
		}
		for _, c := range b.list {
			if got, want := Mark(c, b.weights), markOf(c, b.weights); got != want {
				t.Fatalf("Mark(%v, %v) is %d, want %d", c, b.weights, got, want)
			}
		}
		b.wantOrder(t, b.numbers()...)
		for _, limit := range d.someLimits() {
			want, ok := b.best(limit)
			b.wantBest(t, limit, want, ok)
			but := drawnNumbers(5, n)
			want, ok = b.without(but...).best(limit)
			b.wantSecond(t, limit, but, want, ok)
		}
	}
}

// rises are candidates with more known, with less load, and with both.
func (d draws) rises(c Candidate) []Candidate {
	more, less, both := c, c, c
	more.Known = max(c.Known, d.number(false))
	if c.Known < math.MaxInt && d.below(2) == 0 {
		more.Known = c.Known + 1
	}
	less.Load = min(c.Load, d.number(false))
	if c.Load > math.MinInt && d.below(2) == 0 {
		less.Load = c.Load - 1
	}
	both.Known, both.Load = more.Known, less.Load
	return []Candidate{more, less, both}
}

// TestNoLater (P19.3): with more known, or less load, a candidate comes no later, and the others stay in their order; where it was the best one it still is.
func TestNoLater(t *testing.T) {
	earlier := 0
	for n := range 3000 {
		l, w, d := drawnUnlike(6, n), drawnWeights(6, n), newDraws(7, n)
		was := Order(l, w)
		for at, c := range l {
			number := c.Replica
			for _, risen := range d.rises(c) {
				turned := slices.Clone(l)
				turned[at] = risen
				is := Order(turned, w)
				if slices.Index(is, number) > slices.Index(was, number) {
					t.Fatalf("weights %v: of %v the order is %v, with %v it is %v", w, l, was, risen, is)
				}
				if slices.Index(is, number) < slices.Index(was, number) {
					earlier++
				}
				if !slices.Equal(but(is, number), but(was, number)) {
					t.Fatalf("weights %v: of %v the order is %v, with %v the others part: %v", w, l, was, risen, is)
				}
				wantStillBest(t, l, turned, w, number, d.someLimits())
			}
		}
	}
	if earlier < 1000 {
		t.Errorf("there were only %d that came earlier", earlier)
	}
}

// wantStillBest tells where one that was the best is not, in a list where it has more known, or less load.
func wantStillBest(t *testing.T, l, turned []Candidate, w Weights, number uint64, limits []int) {
	t.Helper()
	for _, limit := range limits {
		was, ok := Best(l, w, limit)
		if !ok || was != number {
			continue
		}
		if is, ok := Best(turned, w, limit); is != number || !ok {
			t.Fatalf("weights %v, limit %d: of %v the best is %d, of %v it is %d, %v", w, limit, l, was, turned, is, ok)
		}
	}
}

// TestNoLaterOfOneNumber (P19.3): so it is with a number that stands several times.
func TestNoLaterOfOneNumber(t *testing.T) {
	for n := range 2000 {
		l, w, d := drawnList(8, n), drawnWeights(8, n), newDraws(9, n)
		was := Order(l, w)
		for at, c := range l {
			for _, risen := range d.rises(c) {
				turned := slices.Clone(l)
				turned[at] = risen
				if is := Order(turned, w); slices.Index(is, c.Replica) > slices.Index(was, c.Replica) {
					t.Fatalf("weights %v: of %v the order is %v, with %v it is %v", w, l, was, risen, is)
				}
			}
		}
	}
}

// but is a list without one number.
func but(list []uint64, number uint64) []uint64 {
	return slices.DeleteFunc(slices.Clone(list), func(n uint64) bool { return n == number })
}

// mayBeAsked are the numbers of a list's candidates that may be asked, each once, rising.
func mayBeAsked(l []Candidate) []uint64 {
	var all []uint64
	for _, c := range l {
		if c.Open {
			all = append(all, c.Replica)
		}
	}
	slices.Sort(all)
	return slices.Compact(all)
}

// TestEachOnce (P19.4, P19.6): the order has each that may be asked once, and no other one.
func TestEachOnce(t *testing.T) {
	for n := range 3000 {
		for _, l := range [][]Candidate{drawnList(10, n), drawnUnlike(10, n)} {
			w := drawnWeights(10, n)
			got := slices.Sorted(slices.Values(Order(l, w)))
			if want := mayBeAsked(l); !slices.Equal(got, want) {
				t.Fatalf("the order of %v has %v, want %v", l, got, want)
			}
		}
	}
}

// TestToldOnce (P19.4, P19.6): Second with those that were told already tells each that may be asked once, and then none; without a limit that counts in their order.
func TestToldOnce(t *testing.T) {
	for n := range 3000 {
		l, w, d := drawnList(11, n), drawnWeights(11, n), newDraws(12, n)
		want := mayBeAsked(l)
		for _, limit := range d.someLimits() {
			first, ok := Best(l, w, limit)
			if ok != (len(want) > 0) || ok && !slices.Contains(want, first) {
				t.Fatalf("Best(%v, %v, %d) is %d, %v", l, w, limit, first, ok)
			}
			told := tellAll(l, w, limit)
			if ok && told[0] != first {
				t.Fatalf("Best(%v, %v, %d) is %d, and Second tells %v", l, w, limit, first, told)
			}
			if limit == math.MinInt && !slices.Equal(told, Order(l, w)) {
				t.Fatalf("of %v and %v Second tells %v, and the order is %v", l, w, told, Order(l, w))
			}
			slices.Sort(told)
			if !slices.Equal(told, want) {
				t.Fatalf("of %v and %v, limit %d, Second tells %v, want %v", l, w, limit, told, want)
			}
		}
	}
}

// tellAll are those that Second tells, each time but those that it told already; no more than there are candidates, and one more.
func tellAll(l []Candidate, w Weights, limit int) []uint64 {
	var told []uint64
	for range len(l) + 1 {
		number, ok := Second(l, w, limit, told...)
		if !ok {
			break
		}
		told = append(told, number)
	}
	return told
}

// TestNotAskedPlayNoPart (P19.4): without those that may not be asked, and with others of these, the same is told.
func TestNotAskedPlayNoPart(t *testing.T) {
	for n := range 3000 {
		l, w, d := drawnList(13, n), drawnWeights(13, n), newDraws(14, n)
		asked := slices.DeleteFunc(slices.Clone(l), func(c Candidate) bool { return !c.Open })
		more := slices.Clone(l)
		for range d.below(6) {
			c := d.candidate(d.replica(), false)
			c.Open = false
			more = slices.Insert(more, d.below(len(more)+1), c)
		}
		out := drawnNumbers(13, n)
		for _, other := range [][]Candidate{asked, more} {
			wantSame(t, l, other, w, d.someLimits(), out)
		}
	}
}

// wantSame tells where of two lists not the same is told.
func wantSame(t *testing.T, a, b []Candidate, w Weights, limits []int, but []uint64) {
	t.Helper()
	if x, y := Order(a, w), Order(b, w); !slices.Equal(x, y) {
		t.Fatalf("weights %v: of %v the order is %v, of %v it is %v", w, a, x, b, y)
	}
	for _, limit := range limits {
		x, okX := Best(a, w, limit)
		y, okY := Best(b, w, limit)
		if x != y || okX != okY {
			t.Fatalf("weights %v, limit %d: of %v the best is %d, %v, of %v it is %d, %v", w, limit, a, x, okX, b, y, okY)
		}
		x, okX = Second(a, w, limit, but...)
		y, okY = Second(b, w, limit, but...)
		if x != y || okX != okY {
			t.Fatalf("weights %v, limit %d: but %v of %v it is %d, %v, of %v it is %d, %v", w, limit, but, a, x, okX, b, y, okY)
		}
	}
}

// TestOrderOfList (P19.5): of unlike numbers the same is told in whichever order the list stands.
func TestOrderOfList(t *testing.T) {
	for n := range 1500 {
		l, w, d := drawnUnlike(15, n), drawnWeights(15, n), newDraws(16, n)
		out := drawnNumbers(15, n)
		for range 8 {
			var other []Candidate
			for _, at := range rand.Perm(d.Next(), len(l)) {
				other = append(other, l[at])
			}
			wantSame(t, l, other, w, d.someLimits(), out)
			slices.Reverse(out)
		}
	}
	// Of few candidates, in all orders.
	for n := range 200 {
		l, w, d := drawnUnlike(17, n), drawnWeights(17, n), newDraws(18, n)
		for _, other := range arranged(l[:min(len(l), 5)]) {
			wantSame(t, l[:min(len(l), 5)], other, w, d.someLimits(), drawnNumbers(17, n))
		}
	}
}

// TestSameAgain (R3): what is asked again is told again, with others in between.
func TestSameAgain(t *testing.T) {
	for n := range 500 {
		l, w, d := drawnList(19, n), drawnWeights(19, n), newDraws(20, n)
		limits, out := d.someLimits(), drawnNumbers(19, n)
		order := Order(l, w)
		Order(drawnList(19, n+1), drawnWeights(19, n+1))
		Second(drawnList(19, n+2), w, 3, out...)
		if again := Order(l, w); !slices.Equal(order, again) {
			t.Fatalf("the order was %v, and is %v", order, again)
		}
		wantSame(t, l, slices.Clone(l), w, limits, out)
	}
}
