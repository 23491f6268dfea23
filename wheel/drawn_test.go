package wheel

import (
	"cmp"
	"math"
	"slices"
	"testing"

	"garboard/api"
	"garboard/rand"
)

// setting is how many labels there are, how much later a timer is due at most, how far the time goes on at most, how often of a hundred calls one is set, and how many calls there are.
type setting struct {
	labels int
	after  int64
	ahead  int64
	sets   int
	calls  int
}

// someSettings are wheels with few timers and with many, which are due soon, late, and never, many of them at one time.
func someSettings() []setting {
	return []setting{
		{1, 0, 0, 50, 300}, {1, 1, 1, 50, 300}, {2, 3, 1, 50, 600}, {3, 10, 2, 60, 800}, {4, 1000, 20, 60, 800}, {5, 6, 0, 50, 800}, {8, 30, 1, 80, 800},
		{8, 1 << 20, 1 << 10, 70, 800}, {16, 1 << 32, 1 << 20, 70, 800}, {40, 5, 9, 80, 800}, {40, 200, 1, 90, 1500}, {600, 1 << 40, 1 << 25, 80, 1000}, {9000, 100000, 2, 95, 2500},
	}
}

// draws are what a test's calls are made of.
type draws struct {
	*rand.Source
	setting
}

// newDraws are draws that hang on a label and a setting's number.
func newDraws(label, n int, s setting) draws {
	return draws{Source: rand.New(rand.Derive(20, uint64(label), uint64(n))), setting: s}
}

// below is a number below another one.
func (d draws) below(n int) int { return int(d.Next() % uint64(n)) }

// label is one of few, some of which are great ones.
func (d draws) label() uint64 {
	n := d.below(d.labels)
	if n%3 == 2 {
		return greatest - uint64(n)
	}
	return uint64(n)
}

// kind is of every sign.
func (d draws) kind() int { return int(d.Next()) }

// later is an after: seldom one that may not be, or one that is long.
func (d draws) later() int64 {
	switch d.below(40) {
	case 0:
		return []int64{math.MinInt64, -1, lastTick + 1, math.MaxInt64}[d.below(4)]
	case 1:
		return []int64{0, 1, lastTick - 1, lastTick}[d.below(4)]
	}
	return int64(d.Next() % uint64(d.after+1))
}

// time is a now behind that of a wheel: often the same, seldom one that is none or an earlier one.
func (d draws) time(now int64) int64 {
	switch d.below(16) {
	case 0:
		return []int64{math.MinInt64, -1, lastTick + 1, math.MaxInt64}[d.below(4)]
	case 1:
		return now - 1 - int64(d.below(5))
	case 2, 3, 4, 5, 6:
		return now
	}
	return now + int64(d.Next()%uint64(d.ahead+1))
}

// number is one that was given, or one beside these.
func (d draws) number(last int) int { return d.below(last+3) - 1 }

// The calls that turn a wheel.
const (
	set = iota
	stop
	stopAll
	due
)

// call is which one is drawn.
func (d draws) call() int {
	if d.below(100) < d.sets {
		return set
	}
	switch n := d.below(20); {
	case n < 10:
		return stop
	case n == 10:
		return stopAll
	}
	return due
}

// step is a drawn call: which one.
func (d draws) step(t *testing.T, p pair) int {
	t.Helper()
	now, what := d.time(p.book.now), d.call()
	switch what {
	case set:
		p.set(t, now, d.later(), d.kind(), d.label())
	case stop:
		p.stop(t, d.near(p.book))
	case stopAll:
		p.stopAll(t, d.label())
	case due:
		p.due(t, now)
	}
	return what
}

// near is often the number of a timer that is there, else any one.
func (d draws) near(b *book) int {
	if len(b.lines) > 0 && d.below(3) > 0 {
		return b.lines[d.below(len(b.lines))].N
	}
	return d.number(b.last)
}

// TestDrawnCalls (P20.1 to P20.4): calls in drawn orders and at drawn times answer as the chapter's words say, and leave behind what they say.
func TestDrawnCalls(t *testing.T) {
	for n, s := range someSettings() {
		for round := range 3 {
			p, d := newPair(t), newDraws(round, n, s)
			for at := range s.calls {
				if d.step(t, p) != set || at%16 == 0 {
					p.checkKept(t)
				}
			}
			p.due(t, lastTick)
			p.wantEmpty(t)
		}
	}
}

// TestDrawnLastTicks (P20.1, P20.2): so do calls up to the last tick and behind it, where timers would be due beyond it.
func TestDrawnLastTicks(t *testing.T) {
	for n, s := range someSettings() {
		p, d := newPair(t), newDraws(3, n, s)
		p.due(t, max(lastTick-40*s.ahead, 0))
		for range s.calls {
			d.step(t, p)
		}
		p.due(t, lastTick)
		for range s.calls / 4 {
			d.step(t, p)
			p.checkKept(t)
		}
		if p.wheel.Now() != lastTick {
			t.Fatalf("the time is %d", p.wheel.Now())
		}
	}
}

// TestDrawnFull (P20.1, P20.2): so do calls of a wheel that is full, or nearly so.
func TestDrawnFull(t *testing.T) {
	for _, after := range []int64{1, 5000, 1 << 40} {
		d := newDraws(4, int(after%7), setting{labels: 5000, after: after, ahead: 2, sets: 70})
		p, refused := newPair(t), 0
		for range room + 3 {
			p.set(t, 0, int64(d.Next()%uint64(after+1)), d.kind(), d.label())
		}
		for range 3000 {
			ahead := p.wheel.Len()
			if d.step(t, p) == set && ahead == room {
				refused++
			}
			for after > 1 && d.below(8) == 0 && p.wheel.Len() < room {
				p.set(t, p.book.now, after, 1, 1)
			}
		}
		p.checkKept(t)
		if after > 1 && refused < 100 {
			t.Errorf("up to %d later: only %d were refused", after, refused)
		}
	}
}

// fate is what became of a timer.
type fate struct {
	Timer
	told, stopped bool
}

// ended tells whether it is there no more.
func (f fate) ended() bool { return f.told || f.stopped }

// fates are those of all timers that were set, the number 1 first.
type fates []fate

// tell notes what Due told at a time, all of which must be there, as it was set, and due.
func (f fates) tell(t *testing.T, now int64, told []Timer) {
	t.Helper()
	for _, one := range told {
		if one.N < 1 || one.N > len(f) || f[one.N-1].Timer != one {
			t.Fatalf("at %d %v is told, which was not set so", now, one)
		}
		if was := f[one.N-1]; was.ended() || one.At > now {
			t.Fatalf("at %d %v is told: it was told: %v, stopped: %v", now, one, was.told, was.stopped)
		}
		f[one.N-1].told = true
	}
	for _, was := range f {
		if !was.ended() && was.At <= now {
			t.Fatalf("at %d %v is not told", now, was.Timer)
		}
	}
}

// stopAll notes those of a label as stopped that are there: how many.
func (f fates) stopAll(label uint64) int {
	count := 0
	for n, was := range f {
		if was.Label == label && !was.ended() {
			f[n].stopped = true
			count++
		}
	}
	return count
}

// TestToldOnce (P20.3): each timer is told once, at the first Due that is not ahead of its time, or stopped, and never both; told by the calls alone.
func TestToldOnce(t *testing.T) {
	told, stopped := 0, 0
	for n, s := range someSettings() {
		w, d := New(), newDraws(10, n, s)
		var all fates
		for range s.calls {
			now := d.time(w.Now())
			switch d.call() {
			case set:
				after, kind, label := d.later(), d.kind(), d.label()
				if got, err := w.Set(now, after, kind, label); err == api.OK {
					all = append(all, fate{Timer: Timer{N: got, Kind: kind, Label: label, At: min(w.Now()+after, lastTick)}})
					if got != len(all) {
						t.Fatalf("the timer %d has the number %d", len(all), got)
					}
				}
			case stop:
				k := d.number(len(all))
				there := k >= 1 && k <= len(all) && !all[k-1].ended()
				if err := w.Stop(k); (err == api.OK) != there {
					t.Fatalf("Stop(%d) is %v", k, err)
				}
				if there {
					all[k-1].stopped = true
				}
			case stopAll:
				label := d.label()
				if got, want := w.StopAll(label), all.stopAll(label); got != want {
					t.Fatalf("StopAll(%d) is %d, want %d", label, got, want)
				}
			case due:
				got := w.Due(now)
				all.tell(t, w.Now(), got)
			}
		}
		all.tell(t, lastTick, w.Due(lastTick))
		for _, was := range all {
			if was.told == was.stopped {
				t.Fatalf("%v was told: %v, stopped: %v", was.Timer, was.told, was.stopped)
			}
			if was.told {
				told++
			} else {
				stopped++
			}
		}
		if w.Len() != 0 || len(w.Due(lastTick)) != 0 {
			t.Fatalf("%d are left", w.Len())
		}
	}
	if told < 1000 || stopped < 500 {
		t.Errorf("%d were told, %d stopped", told, stopped)
	}
}

// TestToldRises (P20.4): from Due to Due, and in each, the times of what is told rise, and of one time in one Due the numbers; told by the calls alone.
func TestToldRises(t *testing.T) {
	like := 0
	for n, s := range someSettings() {
		w, d := New(), newDraws(11, n, s)
		var all []Timer
		for range 2 * s.calls {
			now := d.time(w.Now())
			switch d.call() {
			case set:
				w.Set(now, d.later(), d.kind(), d.label())
			case stop:
				w.Stop(d.number(2 * len(all)))
			case stopAll:
				w.StopAll(d.label())
			case due:
				got := w.Due(now)
				if !slices.IsSortedFunc(got, byTime) {
					t.Fatalf("Due(%d) is %v", now, got)
				}
				all = append(all, got...)
			}
		}
		all = append(all, w.Due(lastTick)...)
		if !slices.IsSortedFunc(all, func(x, y Timer) int { return cmp.Compare(x.At, y.At) }) {
			t.Fatalf("what is told does not rise: %v", all)
		}
		for i := 1; i < len(all); i++ {
			if all[i].At == all[i-1].At {
				like++
			}
		}
	}
	if like < 500 {
		t.Errorf("only %d were of one time with the one ahead", like)
	}
}

// refusals are calls that the chapter refuses of a wheel; each is one of Set or Stop.
func refusals(b *book) []func(*Wheel) (int, api.Errno) {
	var all []func(*Wheel) (int, api.Errno)
	for _, c := range someAfters {
		if !c.may || len(b.lines) == room {
			all = append(all, func(w *Wheel) (int, api.Errno) { return w.Set(b.now, c.after, 1, 1) })
		}
	}
	for _, n := range []int{math.MinInt, -1, 0, b.last + 1, math.MaxInt} {
		all = append(all, func(w *Wheel) (int, api.Errno) { return 0, w.Stop(n) })
	}
	return all
}

// TestRefusedTurnsNothing (R7): behind calls that are refused a wheel goes on as another one of which nothing was refused.
func TestRefusedTurnsNothing(t *testing.T) {
	for n, s := range someSettings() {
		p, d := newPair(t), newDraws(12, n, s)
		for at := range s.calls / 3 {
			d.step(t, p)
			for _, refused := range refusals(p.book) {
				if got, err := refused(p.wheel); got != 0 || err == api.OK {
					t.Fatalf("%d, %v, of a call that may not be", got, err)
				}
				p.check(t)
			}
			if at%8 == 0 {
				p.checkKept(t)
			}
		}
	}
	p := full(t)
	for _, refused := range refusals(p.book) {
		if got, err := refused(p.wheel); got != 0 || err == api.OK {
			t.Fatalf("of a full wheel: %d, %v", got, err)
		}
		p.check(t)
	}
	p.checkKept(t)
}

// TestSameCallsDoTheSame (R3): two wheels to which the same is done tell the same, though maps are gone through in other orders.
func TestSameCallsDoTheSame(t *testing.T) {
	for n, s := range someSettings() {
		s.labels = min(s.labels, 5)
		a, b, d := New(), New(), newDraws(13, n, s)
		for range s.calls {
			now, after, kind, label, k := d.time(a.Now()), d.later(), d.kind(), d.label(), d.number(s.calls)
			same := true
			switch d.call() {
			case set:
				x, errX := a.Set(now, after, kind, label)
				y, errY := b.Set(now, after, kind, label)
				same = x == y && errX == errY
			case stop:
				same = a.Stop(k) == b.Stop(k)
			case stopAll:
				same = a.StopAll(label) == b.StopAll(label)
			case due:
				same = slices.Equal(a.Due(now), b.Due(now))
			}
			x, okX := a.Next()
			y, okY := b.Next()
			if !same || x != y || okX != okY || a.Len() != b.Len() || a.Now() != b.Now() {
				t.Fatalf("two wheels part at %d", now)
			}
		}
		if !slices.Equal(a.Due(lastTick), b.Due(lastTick)) {
			t.Fatal("two wheels part at the end")
		}
	}
}
