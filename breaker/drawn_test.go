package breaker

import (
	"math"
	"testing"

	"garboard/rand"
)

// setting is what a breaker is set to, how often of a thousand calls a failure is told and how often a success, how far the time goes on at most, and how many calls there are.
type setting struct {
	Setting
	fails, oks int
	ahead      int64
	calls      int
}

// someSettings are breakers that open at once and late, for short and for long, and that are closed again at once and late.
func someSettings() []setting {
	return []setting{
		{Setting{1, 1, 1, 1}, 300, 300, 1, 400}, {Setting{1, 1, 1 << 32, 1}, 400, 200, 20, 600}, {Setting{1, 10, 40, 1}, 300, 300, 6, 600}, {Setting{1, 3, 3, 5}, 100, 500, 2, 600},
		{Setting{2, 5, 12, 2}, 300, 200, 3, 800}, {Setting{2, 10, 35, 3}, 300, 300, 8, 800}, {Setting{3, 10, 1000, 2}, 400, 200, 30, 800}, {Setting{3, 7, 8, 1}, 400, 100, 3, 600},
		{Setting{4, 100, 100, 4}, 300, 300, 40, 1500}, {Setting{5, 2, 64, 3}, 400, 150, 5, 1500}, {Setting{10, 20, 60, 2}, 700, 30, 10, 2000}, {Setting{2, 20, 60, 10}, 40, 700, 10, 2000},
		{Setting{2, 1 << 30, 1 << 32, 2}, 300, 200, 1 << 29, 1000}, {Setting{3, 1<<32 - 1, 1 << 32, 2}, 400, 200, 1 << 31, 1000}, {Setting{1, 1 << 32, 1 << 32, 1}, 300, 300, 1 << 32, 600},
		{Setting{1000, 10, 100, 1}, 980, 0, 3, 6000}, {Setting{1, 10, 100, 1000}, 1, 980, 3, 6000}, {Setting{1000, 5, 10, 2}, 995, 1, 20, 6000}, {Setting{100, 10, 100, 1}, 960, 2, 3, 2000}, {Setting{1, 10, 100, 100}, 5, 950, 3, 2000},
	}
}

// draws are what a test's calls are made of.
type draws struct {
	*rand.Source
	setting
}

// newDraws are draws that hang on a label and a setting's number.
func newDraws(label, n int, s setting) draws {
	return draws{Source: rand.New(rand.Derive(22, uint64(label), uint64(n))), setting: s}
}

// below is a number below another one.
func (d draws) below(n int) int { return int(d.Next() % uint64(n)) }

// time is a now of a breaker whose time is told: often the same, seldom one that is none or an earlier one.
func (d draws) time(now int64) int64 {
	switch d.below(16) {
	case 0:
		return []int64{math.MinInt64, -1, lastTick + 1, math.MaxInt64}[d.below(4)]
	case 1:
		return now - 1 - int64(d.below(5))
	case 2, 3, 4, 5, 6:
		return now
	}
	return now + int64(d.Next()%uint64(d.ahead+1))
}

// timeBy is a now of a breaker that is known: also, where it is open, one at its time or beside it.
func (d draws) timeBy(b *book) int64 {
	if b.state == opened && d.below(3) == 0 {
		return b.until - 1 + int64(d.below(3))
	}
	return d.time(b.now)
}

// call is which one is drawn.
func (d draws) call() call {
	switch n := d.below(1000); {
	case n < d.fails:
		return failCall()
	case n < d.fails+d.oks:
		return okCall()
	}
	return []call{stateCall(), allowCall(), allowCall(), leaveCall()}[d.below(4)]
}

// resets tells whether it is reset now, which is seldom, so that as many in a row are met as are asked for.
func (d draws) resets() bool { return d.below(d.calls/3) == 0 }

// met is what a call met: its name, the state, and whether a trial was under way.
type met struct {
	call  string
	state int
	trial bool
}

// step is a drawn call, behind which nothing is asked: what it met, behind what its now made of it.
func (d draws) step(t *testing.T, p pair) met {
	t.Helper()
	if d.resets() {
		m := met{"Reset", p.book.state, p.book.state == half && p.book.trial}
		p.breaker.Reset()
		p.book.reset()
		return m
	}
	now, c := d.timeBy(p.book), d.call()
	ahead := p.copied().book
	ahead.goOn(now)
	p.asks(t, c, now)
	return met{c.name, ahead.state, ahead.state == half && ahead.trial}
}

// someMet are all that a call may meet.
func someMet() []met {
	var all []met
	for _, name := range []string{"State", "Allow", "OK", "Fail", "Leave", "Reset"} {
		all = append(all, met{name, closed, false}, met{name, opened, false}, met{name, half, false}, met{name, half, true})
	}
	return all
}

// TestDrawnCalls (P22.1 to P22.5): calls in drawn orders and at drawn times answer as the chapter's words say, and leave behind what they say.
func TestDrawnCalls(t *testing.T) {
	count := map[met]int{}
	for n, s := range someSettings() {
		went := map[step]int{}
		for round := range 8 {
			p, d := newPair(t, s.Setting), newDraws(round, n, s)
			for range s.calls {
				m := d.step(t, p)
				count[m]++
				if m.call != "Reset" {
					went[step{m.state, p.book.state}]++
				}
				p.check(t)
				if s.Fails < 100 && s.Needs < 100 || d.below(50) == 0 {
					p.checkKept(t)
				}
			}
		}
		// Where many failures in a row are asked for, there are hardly any successes.
		if went[step{closed, opened}] == 0 || went[step{half, opened}] == 0 || went[step{half, closed}] == 0 && s.Fails < 100 {
			t.Errorf("%v: the states went so often from one to one: %v", s.Setting, went)
		}
	}
	for _, m := range someMet() {
		if count[m] < 20 {
			t.Errorf("%v was met %d times", m, count[m])
		}
	}
}

// TestDrawnCallsAlone (P22.1, P22.2): so they do where nothing is asked between them.
func TestDrawnCallsAlone(t *testing.T) {
	for n, s := range someSettings() {
		for round := range 30 {
			p, d := newPair(t, s.Setting), newDraws(10+round, n, s)
			for range d.below(s.calls) {
				d.step(t, p)
			}
			p.check(t)
			p.checkKept(t)
		}
	}
}

// TestDrawnCool (P22.1, P22.2): Cool and Now, which have no now, tell the same behind each call, though nothing else is asked.
func TestDrawnCool(t *testing.T) {
	for n, s := range someSettings() {
		p, d := newPair(t, s.Setting), newDraws(40, n, s)
		for range s.calls {
			m := d.step(t, p)
			if p.breaker.Cool() != p.book.next || p.breaker.Now() != p.book.now {
				t.Fatalf("behind %v Cool is %d and Now %d, want %d and %d", m, p.breaker.Cool(), p.breaker.Now(), p.book.next, p.book.now)
			}
		}
	}
}

// TestDrawnLastTicks (P22.1, P22.2): so do calls up to the last tick and behind it, where one may be open until beyond it.
func TestDrawnLastTicks(t *testing.T) {
	stayed := 0
	for n, s := range someSettings() {
		for round := range 4 {
			p, d := newPair(t, s.Setting), newDraws(50+round, n, s)
			p.does(t, stateCall(), max(lastTick-40*s.ahead, 0))
			for range s.calls {
				d.step(t, p)
				p.check(t)
			}
			p.does(t, stateCall(), lastTick)
			for range s.calls / 4 {
				d.step(t, p)
				p.check(t)
				if p.book.state == opened {
					p.checkKept(t)
					stayed++
				}
			}
			if p.breaker.Now() != lastTick {
				t.Fatalf("the time is %d", p.breaker.Now())
			}
		}
	}
	if stayed < 1000 {
		t.Errorf("only behind %d calls it was open at the last tick", stayed)
	}
}

// step is one from a state to a state.
type step struct{ from, to int }

// byTime are the steps that the time makes.
func byTime() []step { return []step{{opened, half}} }

// byCall are the steps that a call makes at one time.
func byCall(name string) []step {
	switch name {
	case "OK":
		return []step{{half, closed}}
	case "Fail":
		return []step{{closed, opened}, {half, opened}}
	}
	return nil
}

// wantStep tells where a state went otherwise than by one of some steps; if it went, it is counted.
func wantStep(t *testing.T, count map[step]int, s step, some []step) {
	t.Helper()
	if s.from == s.to {
		return
	}
	for _, one := range some {
		if s == one {
			count[s]++
			return
		}
	}
	t.Fatalf("the state goes from %d to %d", s.from, s.to)
}

// TestStatesGo (P22.3): states go from Closed to Open, from Open to Half, from Half to Open or Closed alone, each by the time or by the calls that may do so; told by the calls alone.
func TestStatesGo(t *testing.T) {
	count := map[step]int{}
	for n, s := range someSettings() {
		b, d := newBreaker(t, s.Setting), newDraws(60, n, s)
		state := closed
		for range 3 * s.calls {
			now, c := d.time(b.Now()), d.call()
			next := b.State(now)
			wantStep(t, count, step{state, next}, byTime())
			c.breaker(b, now)
			state = b.State(now)
			wantStep(t, count, step{next, state}, byCall(c.name))
			if b.State(now) != state || state != closed && state != opened && state != half {
				t.Fatalf("behind %s the state is %d, and then %d", c.name, state, b.State(now))
			}
		}
	}
	for _, s := range []step{{closed, opened}, {opened, half}, {half, opened}, {half, closed}} {
		if count[s] < 100 {
			t.Errorf("only %d states went from %d to %d", count[s], s.from, s.to)
		}
	}
}

// TestStatesGoUnasked (P22.3): so they go where no State is asked ahead of a call, whose now may have an open one half open first.
func TestStatesGoUnasked(t *testing.T) {
	count := map[step]int{}
	for n, s := range someSettings() {
		b, d := newBreaker(t, s.Setting), newDraws(61, n, s)
		state := closed
		for range 3 * s.calls {
			now, c := d.time(b.Now()), d.call()
			some := append(byCall(c.name), byTime()...)
			if c.name == "OK" && s.Needs == 1 {
				some = append(some, step{opened, closed})
			}
			c.breaker(b, now)
			next := b.State(now)
			wantStep(t, count, step{state, next}, some)
			state = next
		}
	}
	for _, s := range []step{{closed, opened}, {opened, half}, {half, opened}, {half, closed}, {opened, closed}} {
		if count[s] < 20 {
			t.Errorf("only %d states went from %d to %d", count[s], s.from, s.to)
		}
	}
}

// TestOpenIsNotAsked (P22.4): an open one is asked of no one, whether its state is asked for ahead of Allow or behind it; told by the calls alone.
func TestOpenIsNotAsked(t *testing.T) {
	for _, ahead := range []bool{true, false} {
		open := 0
		for n, s := range someSettings() {
			b, d := newBreaker(t, s.Setting), newDraws(62, n, s)
			for range 3 * s.calls {
				now := d.time(b.Now())
				if d.below(2) == 0 {
					d.call().breaker(b, now)
					continue
				}
				isOpen := ahead && b.State(now) == opened
				allowed := b.Allow(now)
				isOpen = isOpen || b.State(now) == opened
				if isOpen && (allowed || b.State(now) != opened) {
					t.Fatalf("an open one: Allow(%d) is %v, behind it the state is %d", now, allowed, b.State(now))
				}
				open += told(isOpen)
			}
		}
		if open < 1000 {
			t.Errorf("only %d were open", open)
		}
	}
}

// spell is for how long a breaker is open, as its calls tell.
type spell struct{ from, cool int64 }

// wantSpell tells where one that opened is not open ahead of Cool, or is open behind it.
func wantSpell(t *testing.T, b *Breaker, o spell) {
	t.Helper()
	want := opened
	if b.Now() >= o.from+o.cool {
		want = half
	}
	if got := b.State(b.Now()); got != want {
		t.Fatalf("one that is open for %d from %d on: at %d the state is %d", o.cool, o.from, b.Now(), got)
	}
}

// TestHalfOpenBehindCool (P22.5): one that opened is half open behind as much as Cool told ahead of that, and no earlier, whatever is told to it meanwhile; that is from Setting's Cool to Most; told by the calls alone.
func TestHalfOpenBehindCool(t *testing.T) {
	spells := 0
	for n, s := range someSettings() {
		b, d := newBreaker(t, s.Setting), newDraws(63, n, s)
		last := spell{from: -1}
		for range 3 * s.calls {
			now, c := d.time(b.Now()), d.call()
			state, cool := b.State(now), b.Cool()
			if state == opened || state == half && last.from >= 0 {
				wantSpell(t, b, last)
			}
			c.breaker(b, now)
			switch next := b.State(now); {
			case state != opened && next == opened:
				last = spell{from: b.Now(), cool: cool}
				spells++
			case next != opened:
				last.from = -1
			}
			if cool < s.Cool || cool > s.Most {
				t.Fatalf("Cool is %d, of %v", cool, s.Setting)
			}
			if d.below(4) == 0 && last.from >= 0 {
				// So that short times are met at them, a tick ahead of them, and behind them.
				b.State(last.from + last.cool - 1 + int64(d.below(3)))
				wantSpell(t, b, last)
			}
		}
	}
	if spells < 500 {
		t.Errorf("only %d times it opened", spells)
	}
}

// TestHalfOpenBehindMost (P22.5): one that is open is not any more, so much as Most later.
func TestHalfOpenBehindMost(t *testing.T) {
	for n, s := range someSettings() {
		b, d := newBreaker(t, s.Setting), newDraws(64, n, s)
		met := 0
		for range 3 * s.calls {
			now := d.time(b.Now())
			d.call().breaker(b, now)
			if b.State(now) != opened || d.below(4) > 0 || b.Now()+s.Most > lastTick {
				continue
			}
			met++
			if got := b.State(b.Now() + s.Most); got != half {
				t.Fatalf("at %d, %d behind when it was open still, the state is %d", b.Now(), s.Most, got)
			}
		}
		if met == 0 {
			t.Errorf("of %v none was open", s.Setting)
		}
	}
}

// TestSameCallsDoTheSame (R3): two breakers to which the same is done answer the same.
func TestSameCallsDoTheSame(t *testing.T) {
	for n, s := range someSettings() {
		a, b, d := newBreaker(t, s.Setting), newBreaker(t, s.Setting), newDraws(65, n, s)
		for range s.calls {
			now, c := d.time(a.Now()), d.call()
			if x, y := c.breaker(a, now), c.breaker(b, now); x != y || a.State(now) != b.State(now) || a.Cool() != b.Cool() || a.Now() != b.Now() {
				t.Fatalf("%s(%d) is %d and %d", c.name, now, x, y)
			}
		}
	}
}
