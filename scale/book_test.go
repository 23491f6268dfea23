package scale

import (
	"math"
	"math/big"
	"testing"

	"garboard/api"
)

// What the chapter tells by numbers.
const (
	replicas = 8
	lastTick = 1 << 40
	longest  = 1 << 32
)

// never is the time of what was not done yet.
const never = -1

// book is what is known of a scaler, and does what the chapter's words say, one condition behind another.
type book struct {
	Setting
	now      int64
	up, down int64 // when the last step up, and the last step down, was done
}

// newBook is one that has done no step.
func newBook(s Setting) *book { return &book{Setting: s, up: never, down: never} }

// want is Want.
func (b *book) want(load int) int {
	if load < 0 {
		load = 0
	}
	n := load / b.Per
	if load%b.Per > 0 {
		n++
	}
	switch {
	case n < b.Min:
		return b.Min
	case n > b.Max:
		return b.Max
	}
	return n
}

// passed tells whether something was done so long ago, or longer, or never.
func (b *book) passed(at, wait int64) bool { return at == never || b.now-at >= wait }

// fits tells whether 100 times a load is at most so many less one, times Per, times what Slack leaves of 100; in numbers of any size.
func (b *book) fits(live, load int) bool {
	left := new(big.Int).Mul(big.NewInt(100), big.NewInt(int64(load)))
	right := big.NewInt(int64(live))
	right.Sub(right, big.NewInt(1))
	right.Mul(right, big.NewInt(int64(b.Per)))
	right.Mul(right, big.NewInt(int64(100-b.Slack)))
	return left.Cmp(right) <= 0
}

// why is which of the conditions of Step counts.
type why string

// The conditions of Step, and what has it answer 0.
const (
	tooMany why = "live above Max"
	tooFew  why = "live below Min"
	more    why = "live below Want"
	fewer   why = "live above Want"
	moreNot why = "live below Want, but a step up was not long enough ago"
	lately  why = "live above Want, but a step was not long enough ago"
	noSlack why = "live above Want, but one less has not Slack"
	enough  why = "live is Want"
)

// allWhy are all of them.
func allWhy() []why { return []why{tooMany, tooFew, more, fewer, moreNot, lately, noSlack, enough} }

// step is what a condition answers.
func (w why) step() int {
	switch w {
	case tooMany, fewer:
		return -1
	case tooFew, more:
		return 1
	}
	return 0
}

// reason is which condition counts at the book's time.
func (b *book) reason(live, load int) why {
	if live < 0 {
		live = 0
	}
	if live > b.Max {
		return tooMany
	}
	if live < b.Min {
		return tooFew
	}
	want := b.want(load)
	if live < want && b.passed(b.up, b.UpWait) {
		return more
	}
	if live < want {
		return moreNot
	}
	if live == want {
		return enough
	}
	if live > b.Min && b.fits(live, load) && b.passed(max(b.up, b.down), b.DownWait) {
		return fewer
	}
	if b.fits(live, load) {
		return lately
	}
	return noSlack
}

// goOn has the time of a call.
func (b *book) goOn(now int64) {
	isTime := now >= 0 && now <= lastTick
	if isTime && now >= b.now {
		b.now = now
	}
}

// step is Step.
func (b *book) step(now int64, live, load int) int {
	b.goOn(now)
	d := b.reason(live, load).step()
	switch d {
	case 1:
		b.up = b.now
	case -1:
		b.down = b.now
	}
	return d
}

// mayBe tells whether they may be Min and Max.
func mayBe(least, most int) bool {
	return least >= 0 && most >= least && most >= 1 && most <= replicas
}

// set is Set.
func (b *book) set(least, most int) api.Errno {
	if !mayBe(least, most) {
		return api.ErrArg
	}
	b.Min, b.Max = least, most
	return api.OK
}

// pair is a scaler, and its book.
type pair struct {
	scaler *Scaler
	book   *book
}

// newScaler is a scaler.
func newScaler(t *testing.T, s Setting) *Scaler {
	t.Helper()
	z, err := New(s)
	if z == nil || err != api.OK {
		t.Fatalf("New(%+v) is %v, %v", s, z, err)
	}
	return z
}

// newPair is a scaler, and its book.
func newPair(t *testing.T, s Setting) pair {
	t.Helper()
	p := pair{scaler: newScaler(t, s), book: newBook(s)}
	p.check(t)
	return p
}

// copied is another pair, to which the same was done; a scaler is a struct that has nothing in common with a copy of it.
func (p pair) copied() pair {
	one, other := *p.scaler, *p.book
	return pair{scaler: &one, book: &other}
}

// asks has both step, who answer the same; nothing else is asked.
func (p pair) asks(t *testing.T, now int64, live, load int) int {
	t.Helper()
	ahead := *p.book
	got, want := p.scaler.Step(now, live, load), p.book.step(now, live, load)
	if got != want {
		t.Fatalf("Step(%d, %d, %d) is %d, want %d, of %+v", now, live, load, got, want, ahead)
	}
	return got
}

// steps has both step, and tells where they are not the same behind it.
func (p pair) steps(t *testing.T, now int64, live, load int) int {
	t.Helper()
	got := p.asks(t, now, live, load)
	p.check(t)
	return got
}

// must has both step, who answer what is wanted.
func (p pair) must(t *testing.T, now int64, live, load, want int) {
	t.Helper()
	ahead := *p.book
	if got := p.steps(t, now, live, load); got != want {
		t.Fatalf("Step(%d, %d, %d) is %d, want %d, of %+v", now, live, load, got, want, ahead)
	}
}

// sets sets the bounds of both.
func (p pair) sets(t *testing.T, least, most int) api.Errno {
	t.Helper()
	got, want := p.scaler.Set(least, most), p.book.set(least, most)
	if got != want {
		t.Fatalf("Set(%d, %d) is %v, want %v, of %+v", least, most, got, want, *p.book)
	}
	p.check(t)
	return got
}

// mustSet sets the bounds of both, which may be set.
func (p pair) mustSet(t *testing.T, least, most int) {
	t.Helper()
	if err := p.sets(t, least, most); err != api.OK {
		t.Fatalf("Set(%d, %d) is %v", least, most, err)
	}
}

// someLoads are loads beside what each number of replicas has room for, and far from that.
func someLoads(per int) []int {
	all := []int{math.MinInt, math.MinInt + 1, math.MinInt / 100, -per, -1, 0, 1, 20 * per, math.MaxInt / 100, math.MaxInt/100 + 1, math.MaxInt - 1, math.MaxInt}
	for n := 1; n <= replicas+1; n++ {
		all = append(all, n*per-1, n*per, n*per+1)
	}
	return all
}

// check tells where a scaler tells otherwise than its book.
func (p pair) check(t *testing.T) {
	t.Helper()
	if got := p.scaler.Now(); got != p.book.now {
		t.Fatalf("Now is %d, want %d, of %+v", got, p.book.now, *p.book)
	}
	if least, most := p.scaler.Bounds(); least != p.book.Min || most != p.book.Max {
		t.Fatalf("Bounds are %d and %d, want those of %+v", least, most, *p.book)
	}
	for _, load := range someLoads(p.book.Per) {
		if got, want := p.scaler.Want(load), p.book.want(load); got != want {
			t.Fatalf("Want(%d) is %d, want %d, of %+v", load, got, want, *p.book)
		}
	}
	if got := p.scaler.Now(); got != p.book.now {
		t.Fatalf("behind Want and Bounds, Now is %d, want %d", got, p.book.now)
	}
}

// keptTimes are times at which it is told when a scaler did its last steps: those beside the ends of its waits.
func (p pair) keptTimes() []int64 {
	all := []int64{p.book.now, lastTick}
	for _, at := range []int64{p.book.up, p.book.down} {
		if at == never {
			continue
		}
		for _, wait := range []int64{p.book.UpWait, p.book.DownWait} {
			all = append(all, at+wait-1, at+wait, at+wait+1)
		}
	}
	return all
}

// checkKept tells where a scaler keeps otherwise than its book what no call answers: when it did its last steps; told by what copies of it do, with bounds that leave both ways open.
func (p pair) checkKept(t *testing.T) {
	t.Helper()
	for _, now := range p.keptTimes() {
		for _, load := range []int{0, math.MaxInt} {
			c := p.copied()
			c.scaler.Set(0, replicas)
			c.book.set(0, replicas)
			c.asks(t, now, 4, load)
		}
	}
}

// wantStep tells where a step is another one.
func wantStep(t *testing.T, s *Scaler, now int64, live, load, want int) {
	t.Helper()
	if got := s.Step(now, live, load); got != want {
		t.Fatalf("Step(%d, %d, %d) is %d, want %d", now, live, load, got, want)
	}
}

// wantWant tells where a load wants another number.
func wantWant(t *testing.T, s *Scaler, load, want int) {
	t.Helper()
	if got := s.Want(load); got != want {
		t.Fatalf("Want(%d) is %d, want %d", load, got, want)
	}
}

// wantBounds tells where the bounds are others.
func wantBounds(t *testing.T, s *Scaler, least, most int) {
	t.Helper()
	if a, b := s.Bounds(); a != least || b != most {
		t.Fatalf("Bounds are %d and %d, want %d and %d", a, b, least, most)
	}
}

// wantNow tells where the time is another one.
func wantNow(t *testing.T, s *Scaler, want int64) {
	t.Helper()
	if got := s.Now(); got != want {
		t.Fatalf("Now is %d, want %d", got, want)
	}
}

// somewhere is a scaler to which something was done, at a time.
type somewhere struct {
	name string
	pair
}

// everywhere are scalers that did steps, or none, up to a time from 0 to 2^40; with Min 2, Max 6, Per 10, Slack 20, UpWait 5 and DownWait 9.
func everywhere(t *testing.T, at int64) []somewhere {
	t.Helper()
	in := func(name string, doTo func(p pair)) somewhere {
		p := newPair(t, Setting{Min: 2, Max: 6, Per: 10, Slack: 20, UpWait: 5, DownWait: 9})
		doTo(p)
		p.must(t, at, 4, 40, 0)
		wantNow(t, p.scaler, at)
		return somewhere{name, p}
	}
	up := func(p pair, from int64) { p.must(t, max(from, 0), 1, 0, 1) }
	down := func(p pair, from int64) { p.must(t, max(from, 0), 7, 0, -1) }
	return []somewhere{
		in("no step", func(p pair) {}),
		in("up just now", func(p pair) { up(p, at) }),
		in("down just now", func(p pair) { down(p, at) }),
		in("up, not long enough ago", func(p pair) { up(p, at-4) }),
		in("up, long enough ago for one up", func(p pair) { up(p, at-5) }),
		in("up, long enough ago", func(p pair) { up(p, at-9) }),
		in("down, not long enough ago", func(p pair) { down(p, at-8) }),
		in("down, long enough ago", func(p pair) { down(p, at-9) }),
		in("up, then down", func(p pair) { up(p, at-9); down(p, at-2) }),
		in("down, then up", func(p pair) { down(p, at-9); up(p, at-2) }),
		in("up and down at once", func(p pair) { up(p, at-3); down(p, at-3) }),
		in("down, with other bounds", func(p pair) { down(p, at-3); p.mustSet(t, 0, 8) }),
	}
}
