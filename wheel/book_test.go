package wheel

import (
	"cmp"
	"slices"
	"testing"

	"garboard/api"
)

// The bounds, as the chapter tells them.
const (
	room      = 4096
	lastTick  = 1 << 40
	lastGiven = 2147483647
)

// book are the timers of a wheel, and does what the chapter's words say: a plain list that rises by times, and of one time by numbers.
type book struct {
	now   int64
	last  int
	lines []Timer
}

// goOn has the time of a call.
func (b *book) goOn(now int64) {
	isTime := now >= 0 && now <= lastTick
	if isTime && now >= b.now {
		b.now = now
	}
}

// set is Set.
func (b *book) set(now, after int64, kind int, label uint64) (int, api.Errno) {
	b.goOn(now)
	switch {
	case after < 0, after > lastTick:
		return 0, api.ErrArg
	case len(b.lines) == room, b.last == lastGiven:
		return 0, api.ErrMany
	}
	b.last++
	at := b.now + after
	if at > lastTick {
		at = lastTick
	}
	// Behind all of its time, as its number is greater than theirs.
	place := 0
	for place < len(b.lines) && b.lines[place].At <= at {
		place++
	}
	b.lines = slices.Insert(b.lines, place, Timer{N: b.last, Kind: kind, Label: label, At: at})
	return b.last, api.OK
}

// stop is Stop.
func (b *book) stop(n int) api.Errno {
	for place, t := range b.lines {
		if t.N == n {
			b.lines = slices.Delete(b.lines, place, place+1)
			return api.OK
		}
	}
	return api.ErrNone
}

// stopAll is StopAll.
func (b *book) stopAll(label uint64) int {
	var left []Timer
	for _, t := range b.lines {
		if t.Label != label {
			left = append(left, t)
		}
	}
	stopped := len(b.lines) - len(left)
	b.lines = left
	return stopped
}

// due is Due.
func (b *book) due(now int64) []Timer {
	b.goOn(now)
	var due []Timer
	for len(b.lines) > 0 && b.lines[0].At <= b.now {
		due = append(due, b.lines[0])
		b.lines = b.lines[1:]
	}
	return due
}

// next is Next.
func (b *book) next() (int64, bool) {
	if len(b.lines) == 0 {
		return 0, false
	}
	return b.lines[0].At, true
}

// pair is a wheel, and its book.
type pair struct {
	wheel *Wheel
	book  *book
}

// newPair is a wheel without timers, and its book.
func newPair(t *testing.T) pair {
	t.Helper()
	w := New()
	if w == nil {
		t.Fatal("New gives none")
	}
	p := pair{wheel: w, book: &book{}}
	p.check(t)
	return p
}

// set sets a timer in both, which answer the same.
func (p pair) set(t *testing.T, now, after int64, kind int, label uint64) (int, api.Errno) {
	t.Helper()
	got, err := p.wheel.Set(now, after, kind, label)
	want, wantErr := p.book.set(now, after, kind, label)
	if got != want || err != wantErr {
		t.Fatalf("Set(%d, %d, %d, %d) at %d is %d, %v, want %d, %v", now, after, kind, label, p.book.now, got, err, want, wantErr)
	}
	p.check(t)
	return got, err
}

// mustSet sets a timer in both, which is set: its number.
func (p pair) mustSet(t *testing.T, now, after int64, label uint64) int {
	t.Helper()
	n, err := p.set(t, now, after, 1, label)
	if err != api.OK {
		t.Fatalf("Set(%d, %d): %v", now, after, err)
	}
	return n
}

// stop stops a timer in both, which answer the same.
func (p pair) stop(t *testing.T, n int) api.Errno {
	t.Helper()
	err, want := p.wheel.Stop(n), p.book.stop(n)
	if err != want {
		t.Fatalf("Stop(%d) is %v, want %v", n, err, want)
	}
	p.check(t)
	return err
}

// stopAll stops all with a label in both, which answer the same.
func (p pair) stopAll(t *testing.T, label uint64) int {
	t.Helper()
	got, want := p.wheel.StopAll(label), p.book.stopAll(label)
	if got != want {
		t.Fatalf("StopAll(%d) is %d, want %d", label, got, want)
	}
	p.check(t)
	return got
}

// due asks both for those that are due, which answer the same: their numbers.
func (p pair) due(t *testing.T, now int64) []int {
	t.Helper()
	got, want := p.wheel.Due(now), p.book.due(now)
	if !slices.Equal(got, want) {
		t.Fatalf("Due(%d) at %d is\n%v, want\n%v", now, p.book.now, got, want)
	}
	p.check(t)
	return numbers(got)
}

// numbers are those of timers.
func numbers(timers []Timer) []int {
	var all []int
	for _, t := range timers {
		all = append(all, t.N)
	}
	return all
}

// check tells where a wheel tells otherwise than its book, or keeps other timers than those that are there.
func (p pair) check(t *testing.T) {
	t.Helper()
	if got := p.wheel.Now(); got != p.book.now {
		t.Fatalf("Now is %d, want %d", got, p.book.now)
	}
	if got := p.wheel.Len(); got != len(p.book.lines) || got > room {
		t.Fatalf("at %d Len is %d, want %d", p.book.now, got, len(p.book.lines))
	}
	at, ok := p.wheel.Next()
	if want, wantOK := p.book.next(); at != want || ok != wantOK {
		t.Fatalf("at %d Next is %d, %v, want %d, %v", p.book.now, at, ok, want, wantOK)
	}
	if len(p.wheel.queue) != len(p.book.lines) || len(p.wheel.timers) != len(p.book.lines) {
		t.Fatalf("at %d the heap has %d, the map %d, want %d", p.book.now, len(p.wheel.queue), len(p.wheel.timers), len(p.book.lines))
	}
}

// checkKept tells where the heap or the map of a wheel has other timers than its book; it looks at each of them.
func (p pair) checkKept(t *testing.T) {
	t.Helper()
	var all []Timer
	for place, q := range p.wheel.queue {
		if q.place != place || p.wheel.timers[q.N] != q {
			t.Fatalf("at %d the timer %d is not found at its place", p.book.now, q.N)
		}
		all = append(all, q.Timer)
	}
	slices.SortFunc(all, byTime)
	if !slices.Equal(all, p.book.lines) {
		t.Fatalf("at %d there are\n%v, want\n%v", p.book.now, all, p.book.lines)
	}
	for _, q := range p.wheel.queue[len(p.wheel.queue):cap(p.wheel.queue)] {
		if q != nil {
			t.Fatalf("at %d the timer %d is kept behind the heap", p.book.now, q.N)
		}
	}
}

// byTime is the order of what is told: by times, of one time by numbers.
func byTime(x, y Timer) int { return cmp.Or(cmp.Compare(x.At, y.At), cmp.Compare(x.N, y.N)) }

// wantDue tells where others are due than those of these numbers.
func (p pair) wantDue(t *testing.T, now int64, want ...int) {
	t.Helper()
	if got := p.due(t, now); !slices.Equal(got, want) {
		t.Fatalf("Due(%d) tells of %v, want %v", now, got, want)
	}
}

// wantStop tells where Stop answers otherwise.
func (p pair) wantStop(t *testing.T, n int, want api.Errno) {
	t.Helper()
	if got := p.stop(t, n); got != want {
		t.Fatalf("Stop(%d) is %v, want %v", n, got, want)
	}
}

// wantStopAll tells where StopAll answers otherwise.
func (p pair) wantStopAll(t *testing.T, label uint64, want int) {
	t.Helper()
	if got := p.stopAll(t, label); got != want {
		t.Fatalf("StopAll(%d) is %d, want %d", label, got, want)
	}
}

// wantNext tells where the next one is due at another time.
func (p pair) wantNext(t *testing.T, want int64) {
	t.Helper()
	if at, ok := p.wheel.Next(); at != want || !ok {
		t.Fatalf("Next is %d, %v, want %d", at, ok, want)
	}
}

// wantEmpty tells where a wheel has timers.
func (p pair) wantEmpty(t *testing.T) {
	t.Helper()
	if at, ok := p.wheel.Next(); at != 0 || ok || p.wheel.Len() != 0 {
		t.Fatalf("there are %d, the next one is due at %d, %v", p.wheel.Len(), at, ok)
	}
}

// full is a wheel with as many timers as there may be, each a tick behind the one ahead of it, the first one at 0.
func full(t *testing.T) pair {
	t.Helper()
	p := newPair(t)
	for n := range room {
		if got := p.mustSet(t, 0, int64(n), uint64(n%3)); got != n+1 {
			t.Fatalf("the timer %d has the number %d", n+1, got)
		}
	}
	return p
}
