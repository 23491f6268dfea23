package breaker

import (
	"math"
	"testing"

	"garboard/api"
)

// TestExample: the chapter's example.
func TestExample(t *testing.T) {
	for _, most := range []int64{10, 20, 1 << 32} {
		b := newBreaker(t, Setting{Fails: 1, Cool: 10, Most: most, Needs: 1})
		b.Fail(0)
		for now := range int64(10) {
			wantState(t, b, now, opened)
		}
		for now := int64(10); now < 50; now++ {
			wantState(t, b, now, half)
		}
	}
}

// TestStates: the states are the numbers that the chapter tells.
func TestStates(t *testing.T) {
	if Closed != closed || Open != opened || Half != half {
		t.Fatalf("the states are %d, %d and %d", Closed, Open, Half)
	}
}

// part is a part of a setting, and whether it may be.
type part struct {
	n   int64
	may bool
}

// inARow are numbers of failures and successes.
func inARow() []part {
	return []part{{math.MinInt, false}, {-1000, false}, {-1, false}, {0, false}, {1, true}, {2, true}, {999, true}, {1000, true}, {1001, false}, {1 << 32, false}, {1<<32 + 1, false}, {math.MaxInt, false}}
}

// cools are ticks for which it opens.
func cools() []part {
	return []part{{math.MinInt64, false}, {-1 << 32, false}, {-1, false}, {0, false}, {1, true}, {2, true}, {10, true}, {1<<32 - 1, true}, {1 << 32, true}, {1<<32 + 1, false}, {1 << 40, false}, {math.MaxInt64, false}}
}

// mosts are ticks for which it opens at most, where it opens first for cool ticks; whether they may be counts where cool may be alone.
func mosts(cool int64) []part {
	return []part{
		{math.MinInt64, false}, {-1, false}, {0, false}, {cool - 1, false}, {cool, true}, {cool + 1, cool < 1<<32}, {1<<32 - 1, cool < 1<<32},
		{1 << 32, true}, {1<<32 + 1, false}, {1 << 40, false}, {math.MaxInt64, false},
	}
}

// TestNew (P22.1): settings whose parts are within their bounds, at them and beyond them, one alone and several at once.
func TestNew(t *testing.T) {
	taken, refused := 0, 0
	for _, fails := range inARow() {
		for _, needs := range inARow() {
			for _, cool := range cools() {
				for _, most := range mosts(cool.n) {
					s := Setting{Fails: int(fails.n), Cool: cool.n, Most: most.n, Needs: int(needs.n)}
					if fails.may && needs.may && cool.may && most.may {
						p := newPair(t, s)
						wantAllow(t, p.breaker, 0, true)
						p.check(t)
						taken++
						continue
					}
					if b, err := New(s); b != nil || err != api.ErrArg {
						t.Fatalf("New(%v) is %v, %v", s, b, err)
					}
					refused++
				}
			}
		}
	}
	if taken < 200 || refused < 1000 {
		t.Errorf("%d are taken, %d are refused", taken, refused)
	}
}

// TestNewNone (P22.1): the setting that has nothing, and ones of which a part alone is told, are none.
func TestNewNone(t *testing.T) {
	for _, s := range []Setting{{}, {Fails: 1}, {Cool: 1}, {Most: 1}, {Needs: 1}, {Cool: 1, Most: 1, Needs: 1}, {Fails: 1, Most: 1, Needs: 1}, {Fails: 1, Cool: 1, Needs: 1}, {Fails: 1, Cool: 1, Most: 1}} {
		if b, err := New(s); b != nil || err != api.ErrArg {
			t.Errorf("New(%v) is %v, %v", s, b, err)
		}
	}
}

// TestNewClosed (P22.1): New's is Closed at the time 0, nothing is counted, and it opens first for Setting's Cool.
func TestNewClosed(t *testing.T) {
	for _, s := range []Setting{{1, 1, 1, 1}, {1, 10, 10, 1}, {3, 10, 35, 2}, {1000, 1 << 32, 1 << 32, 1000}, {2, 1, 1 << 32, 1000}} {
		b := newBreaker(t, s)
		wantNow(t, b, 0)
		wantCool(t, b, s.Cool)
		for range 3 {
			wantState(t, b, 0, closed)
			wantAllow(t, b, 0, true)
		}
		wantNow(t, b, 0)
		newPair(t, s).checkKept(t)
	}
}

// someNows are nows of a breaker whose time is at: its own, earlier and later ones, and ones that are none; and the time that it has then.
func someNows(at int64) map[int64]int64 {
	return map[int64]int64{
		at: at, at - 1: at, at - 9: at, 0: at, -1: at, -at - 1: at, math.MinInt64: at, math.MinInt64 + 1: at,
		at + 1: at + 1, at + 10: at + 10, lastTick - 1: lastTick - 1, lastTick: lastTick,
		lastTick + 1: at, lastTick + at + 1: at, 1 << 41: at, math.MaxInt64 - 1: at, math.MaxInt64: at,
	}
}

// TestNow (P22.1, P22.2): the time is the last now that was one, and not an earlier one; whichever call has it, in whichever state.
func TestNow(t *testing.T) {
	for _, at := range []int64{0, 10, 30, 100, 1 << 33, lastTick - 20} {
		for _, c := range callsWithNow() {
			for now, want := range someNows(at) {
				for _, s := range everywhere(t, at) {
					p := s.copied()
					c.breaker(p.breaker, now)
					if got := p.breaker.Now(); got != want {
						t.Fatalf("%s, at %d: behind %s(%d) the time is %d, want %d", s.name, at, c.name, now, got, want)
					}
				}
			}
		}
	}
}

// TestNowEverywhere (P22.1, P22.2): each call, with each now, in each state, does what the chapter's words say; and so does a second one behind it.
func TestNowEverywhere(t *testing.T) {
	for _, at := range []int64{0, 30, 100, lastTick - 20, lastTick} {
		for _, s := range everywhere(t, at) {
			for now, then := range someNows(at) {
				for _, c := range callsWithNow() {
					p := s.copied()
					p.asks(t, c, now)
					for _, more := range callsWithNow() {
						again := p.copied()
						again.does(t, more, then)
						again.checkKept(t)
					}
					p.check(t)
					p.checkKept(t)
				}
			}
		}
	}
}

// TestOtherTimes (P22.1, P22.2): a call whose now is none, or an earlier one, does at the breaker's time what it does.
func TestOtherTimes(t *testing.T) {
	for _, now := range []int64{math.MinInt64, -1, 0, 1, 99, 100, lastTick + 1, math.MaxInt64} {
		b := newBreaker(t, Setting{Fails: 2, Cool: 10, Most: 20, Needs: 2})
		wantState(t, b, 100, closed)
		b.Fail(now)
		b.OK(now)
		b.Fail(now)
		wantState(t, b, now, closed)
		b.Fail(now) // until 110
		wantState(t, b, now, opened)
		wantAllow(t, b, now, false)
		wantState(t, b, 109, opened)
		wantState(t, b, now, opened)
		wantAllow(t, b, 110, true)
		wantState(t, b, now, half)
		wantAllow(t, b, now, false)
		b.Leave(now)
		wantAllow(t, b, now, true)
		b.OK(now)
		b.Fail(now) // until 130
		wantState(t, b, 129, opened)
		wantState(t, b, 130, half)
		b.OK(now)
		b.OK(now)
		wantState(t, b, now, closed)
		wantNow(t, b, 130)
	}
}

// TestOpenTime (P22.1, P22.2): what each call answers and leaves behind of one that is open, a tick ahead of its time, at it, behind it and far behind it.
func TestOpenTime(t *testing.T) {
	for _, cool := range []int64{1, 2, 10, 1 << 32} {
		for _, from := range []int64{0, 1, 1000} {
			for _, late := range []int64{-1, 0, 1, 5, 1 << 35} {
				now := from + cool + late
				open := func() *Breaker {
					b := newBreaker(t, Setting{Fails: 2, Cool: cool, Most: cool, Needs: 2})
					b.Fail(from)
					b.Fail(from)
					wantNow(t, b, from)
					return b
				}
				if late < 0 {
					wantOpen(t, open, now)
				} else {
					wantHalf(t, open, now)
				}
			}
		}
	}
}

// wantOpen tells where a call at a now does not find an open one open, or leaves it otherwise than open until a tick later.
func wantOpen(t *testing.T, open func() *Breaker, now int64) {
	t.Helper()
	wantAllow(t, open(), now, false)
	for _, c := range callsWithNow() {
		b := open()
		c.breaker(b, now)
		wantState(t, b, -1, opened)
		wantNow(t, b, now)
		wantState(t, b, now+1, half)
	}
}

// wantHalf tells where a call at a now does not find one half open that was open, without a trial and without successes.
func wantHalf(t *testing.T, open func() *Breaker, now int64) {
	t.Helper()
	b := open()
	wantState(t, b, now, half)
	wantAllow(t, b, -1, true)

	b = open()
	wantAllow(t, b, now, true)
	wantAllow(t, b, -1, false)
	wantState(t, b, -1, half)

	b = open()
	b.OK(now)
	wantState(t, b, -1, half)
	b.OK(-1)
	wantState(t, b, -1, closed)

	b = open()
	b.Fail(now)
	wantState(t, b, -1, opened)
	wantState(t, b, now+b.Cool()-1, opened)
	wantState(t, b, now+b.Cool(), half)

	b = open()
	b.Leave(now)
	wantState(t, b, -1, half)
	wantAllow(t, b, -1, true)
}

// TestOpenStays (P22.2): nothing that is told to an open one plays a part: neither its time nor what comes behind it.
func TestOpenStays(t *testing.T) {
	for _, c := range callsWithNow() {
		p := newPair(t, Setting{Fails: 2, Cool: 100, Most: 1000, Needs: 2})
		p.times(t, 2, failCall(), 5)
		for now := int64(5); now < 105; now++ {
			p.times(t, 3, c, now)
			wantState(t, p.breaker, now, opened)
			wantCool(t, p.breaker, 200)
		}
		p.checkKept(t)
		wantState(t, p.breaker, 105, half)
		wantAllow(t, p.breaker, 105, true)
		p.breaker.OK(105)
		wantState(t, p.breaker, 105, half)
		p.breaker.OK(105)
		wantState(t, p.breaker, 105, closed)
		p.breaker.Fail(105)
		wantState(t, p.breaker, 105, closed)
	}
}

// TestBeyondMaxTicks (P22.1): one that is open until behind the last tick stays open; one until the last tick is half open at it.
func TestBeyondMaxTicks(t *testing.T) {
	for _, cool := range []int64{1, 2, 10, 1 << 32} {
		for _, c := range callsWithNow() {
			for beyond := int64(-1); beyond <= cool; beyond += max(1, cool/3) {
				b := newBreaker(t, Setting{Fails: 1, Cool: cool, Most: 1 << 32, Needs: 1000})
				from := lastTick - cool + beyond
				b.Fail(from)
				want := opened
				if beyond <= 0 {
					want = half
				}
				wantState(t, b, from, opened)
				for _, now := range []int64{lastTick, lastTick + 1, lastTick + cool, lastTick + 1<<32, math.MaxInt64} {
					wantState(t, b, now, want)
				}
				if want == opened {
					c.breaker(b, lastTick)
					wantState(t, b, lastTick, opened)
					wantNow(t, b, lastTick)
				}
			}
		}
	}
}

// TestBeyondMaxTicksEnds (P22.2): one that stays open at the last tick is closed by Reset alone, and opens there for good again.
func TestBeyondMaxTicksEnds(t *testing.T) {
	p := newPair(t, Setting{Fails: 2, Cool: 10, Most: 40, Needs: 1})
	for range 3 {
		p.times(t, 2, failCall(), lastTick)
		for _, c := range callsWithNow() {
			p.times(t, 3, c, lastTick)
			p.checkKept(t)
		}
		wantState(t, p.breaker, lastTick, opened)
		p.reset(t)
		wantAllow(t, p.breaker, lastTick, true)
		p.checkKept(t)
	}
}

// TestAllow (P22.1): a closed one is asked always, an open one never, a half open one once: until the trial is over.
func TestAllow(t *testing.T) {
	for _, needs := range []int{2, 1000} {
		b := newBreaker(t, Setting{Fails: 2, Cool: 10, Most: 10, Needs: needs})
		for range 50 {
			wantAllow(t, b, 0, true)
		}
		b.Fail(0)
		for range 50 {
			wantAllow(t, b, 0, true)
		}
		b.Fail(0)
		for now := range int64(10) {
			wantAllow(t, b, now, false)
		}
		for _, over := range []func(*Breaker, int64){(*Breaker).Leave, (*Breaker).OK} {
			wantAllow(t, b, 10, true)
			for now := int64(10); now < 100; now++ {
				wantAllow(t, b, 10, false)
				wantState(t, b, 10, half)
			}
			over(b, 10)
		}
		wantAllow(t, b, 10, true)
		b.Fail(10)
		wantAllow(t, b, 19, false)
		// The trial that was under way is not, as it is half open anew.
		wantAllow(t, b, 20, true)
		wantAllow(t, b, 20, false)
		b.Reset()
		for range 3 {
			wantAllow(t, b, 20, true)
		}
	}
}

// TestTrialLasts (P22.1): a trial is under way until it is told of, however late that is.
func TestTrialLasts(t *testing.T) {
	b := newBreaker(t, Setting{Fails: 1, Cool: 10, Most: 20, Needs: 2})
	b.Fail(0)
	wantAllow(t, b, 10, true)
	for _, now := range []int64{11, 20, 31, 1 << 33, lastTick, math.MaxInt64} {
		wantAllow(t, b, now, false)
		wantState(t, b, now, half)
	}
	b.Leave(lastTick)
	wantAllow(t, b, lastTick, true)
}

// TestWithoutTrial (P22.2): OK, Fail and Leave of a half open one without a trial do what they do of one with it.
func TestWithoutTrial(t *testing.T) {
	for _, trial := range []bool{false, true} {
		halfOpen := func() pair {
			p := newPair(t, Setting{Fails: 1, Cool: 10, Most: 100, Needs: 2})
			p.does(t, failCall(), 0)
			p.does(t, stateCall(), 10)
			if trial {
				p.does(t, allowCall(), 10)
			}
			return p
		}
		p := halfOpen()
		p.does(t, okCall(), 11)
		wantState(t, p.breaker, 11, half)
		wantAllow(t, p.breaker, 11, true)
		p.does(t, okCall(), 11)
		wantState(t, p.breaker, 11, closed)

		p = halfOpen()
		p.does(t, failCall(), 11)
		wantState(t, p.breaker, 30, opened)
		wantState(t, p.breaker, 31, half)
		wantCool(t, p.breaker, 40)

		p = halfOpen()
		p.does(t, leaveCall(), 11)
		wantState(t, p.breaker, 11, half)
		wantAllow(t, p.breaker, 11, true)
		wantAllow(t, p.breaker, 11, false)
		p.does(t, okCall(), 11)
		wantState(t, p.breaker, 11, half)
	}
}

// someInARow are as many in a row as are asked for.
func someInARow() []int { return []int{1, 2, 3, 7, 256, 999, 1000} }

// TestFails (P22.2): with as many failures as Fails it opens, not with one fewer; an OK among them has none counted any more, and Allow, State and Leave do nothing.
func TestFails(t *testing.T) {
	for _, fails := range someInARow() {
		s := Setting{Fails: fails, Cool: 10, Most: 100, Needs: 1}
		b := newBreaker(t, s)
		for range fails - 1 {
			b.Fail(3)
			wantState(t, b, 3, closed)
		}
		wantCool(t, b, 10)
		b.Fail(3)
		wantState(t, b, 3, opened)
		wantCool(t, b, 20)

		for among := range min(fails, 5) {
			b := newBreaker(t, s)
			for range among {
				b.Fail(3)
			}
			b.OK(3)
			for n := range fails {
				wantState(t, b, int64(n), closed)
				b.Leave(int64(n))
				wantAllow(t, b, int64(n), true)
				b.Fail(int64(n))
			}
			wantState(t, b, 0, opened)
		}
	}
}

// TestFailuresLast (P22.2): failures of a closed one count however long ago they were.
func TestFailuresLast(t *testing.T) {
	b := newBreaker(t, Setting{Fails: 4, Cool: 10, Most: 10, Needs: 1})
	for _, now := range []int64{0, 1 << 20, 1 << 33} {
		b.Fail(now)
		wantState(t, b, now, closed)
	}
	wantState(t, b, 1<<39, closed)
	b.Fail(1 << 39)
	wantState(t, b, 1<<39+9, opened)
	wantState(t, b, 1<<39+10, half)
}

// TestNeeds (P22.2): with as many successes as Needs it is closed, not with one fewer; a Leave among them counts nothing, and a Fail has none counted any more.
func TestNeeds(t *testing.T) {
	for _, needs := range someInARow() {
		s := Setting{Fails: 2, Cool: 10, Most: 100, Needs: needs}
		b := newBreaker(t, s)
		b.Fail(0)
		b.Fail(0)
		for n := range needs {
			wantState(t, b, 10, half)
			if n%2 == 0 {
				wantAllow(t, b, 10, true)
			}
			b.Leave(10)
			b.OK(10)
		}
		wantState(t, b, 10, closed)
		wantCool(t, b, 10)

		for among := range min(needs, 5) {
			b := newBreaker(t, s)
			b.Fail(0)
			b.Fail(0)
			for range among {
				b.OK(10)
			}
			b.Fail(10)
			for range needs {
				wantState(t, b, 30, half)
				b.OK(30)
			}
			wantState(t, b, 30, closed)
		}
	}
}

// TestClosedAgain (P22.2): behind a closing no failures are counted, and nothing of what was plays a part.
func TestClosedAgain(t *testing.T) {
	for _, fails := range someInARow() {
		p := newPair(t, Setting{Fails: fails, Cool: 10, Most: 100, Needs: 1})
		for from := int64(0); from < 100; from += 20 {
			p.times(t, fails-1, failCall(), from)
			wantState(t, p.breaker, from, closed)
			p.does(t, failCall(), from)
			wantState(t, p.breaker, from+9, opened)
			p.does(t, allowCall(), from+10)
			p.does(t, okCall(), from+10)
			wantState(t, p.breaker, from+10, closed)
			p.checkKept(t)
		}
	}
}

// TestOnes (P22.2): with Fails and Needs of 1 each failure opens it, and each success behind its time closes it, in one call.
func TestOnes(t *testing.T) {
	b := newBreaker(t, Setting{Fails: 1, Cool: 1, Most: 1, Needs: 1})
	for now := range int64(50) {
		b.OK(now)
		wantState(t, b, now, closed)
		b.Fail(now)
		wantState(t, b, now, opened)
		b.OK(now)
		wantState(t, b, now, opened)
	}
	for now := int64(50); now < 100; now++ {
		b.Fail(now)
		wantState(t, b, now, opened)
		wantCool(t, b, 1)
	}
}

// TestCool (P22.1, P22.2): it opens for Cool, then for twice as long each time, at most for Most; and behind a closing for Cool again.
func TestCool(t *testing.T) {
	for _, c := range []struct {
		cool, most int64
		want       []int64 // for how long it opens, one time behind another
	}{
		{10, 40, []int64{10, 20, 40, 40, 40}}, {10, 35, []int64{10, 20, 35, 35}}, {10, 41, []int64{10, 20, 40, 41, 41}}, {10, 39, []int64{10, 20, 39, 39}},
		{10, 10, []int64{10, 10, 10}}, {10, 11, []int64{10, 11, 11}}, {10, 19, []int64{10, 19, 19}}, {10, 20, []int64{10, 20, 20}}, {10, 21, []int64{10, 20, 21, 21}},
		{1, 1, []int64{1, 1, 1}}, {1, 2, []int64{1, 2, 2}}, {3, 4, []int64{3, 4, 4}}, {1 << 32, 1 << 32, []int64{1 << 32, 1 << 32, 1 << 32}},
		{1<<32 - 1, 1 << 32, []int64{1<<32 - 1, 1 << 32, 1 << 32}}, {1<<31 + 1, 1 << 32, []int64{1<<31 + 1, 1 << 32, 1 << 32}}, {1 << 31, 1<<32 - 1, []int64{1 << 31, 1<<32 - 1, 1<<32 - 1}},
		{1 << 29, 1 << 32, []int64{1 << 29, 1 << 30, 1 << 31, 1 << 32, 1 << 32}},
	} {
		b := newBreaker(t, Setting{Fails: 1, Cool: c.cool, Most: c.most, Needs: 1})
		for range 2 {
			for n, want := range c.want {
				wantCool(t, b, want)
				from := b.Now() + 3
				b.Fail(from)
				wantState(t, b, from+want-1, opened)
				wantState(t, b, from+want, half)
				if n+1 < len(c.want) {
					wantCool(t, b, c.want[n+1])
				}
			}
			b.OK(b.Now())
			wantState(t, b, -1, closed)
		}
		wantCool(t, b, c.cool)
	}
}

// TestCoolLong (P22.2): from the least Cool to the greatest Most it doubles bit by bit, and stays there.
func TestCoolLong(t *testing.T) {
	b := newBreaker(t, Setting{Fails: 1, Cool: 1, Most: 1 << 32, Needs: 1000})
	for n := range 100 {
		want := int64(1) << min(n, 32)
		wantCool(t, b, want)
		b.Fail(b.Now())
		wantState(t, b, b.Now()+want-1, opened)
		wantState(t, b, b.Now()+1, half)
	}
}

// TestCoolStays (P22.1, P22.2): for how long it opens next is turned by no call but one that opens or closes it.
func TestCoolStays(t *testing.T) {
	b := newBreaker(t, Setting{Fails: 3, Cool: 10, Most: 100, Needs: 3})
	for now := range int64(5) {
		b.Fail(now)
		b.Fail(now)
		wantCool(t, b, 10)
		b.OK(now)
		wantCool(t, b, 10)
	}
	for range 3 {
		b.Fail(5)
	}
	wantCool(t, b, 20)
	b.Fail(14)
	wantCool(t, b, 20)
	for range 2 {
		b.Allow(15)
		b.Leave(15)
		b.OK(15)
		wantCool(t, b, 20)
	}
	b.Fail(15)
	wantCool(t, b, 40)
}

// TestReset (P22.2): of each state it is as New's, at its time, whatever was counted.
func TestReset(t *testing.T) {
	for _, at := range []int64{0, 30, 31, 1000, 1 << 33, lastTick - 100} {
		for _, s := range everywhere(t, at) {
			s.reset(t)
			s.checkKept(t)
			b := s.breaker
			wantNow(t, b, at)
			wantCool(t, b, 10)
			wantState(t, b, at, closed)
			for range 3 {
				wantAllow(t, b, at, true)
			}
			b.Fail(at + 1)
			b.Fail(at + 1)
			wantState(t, b, at+1, closed)
			b.Fail(at + 1)
			wantState(t, b, at+10, opened)
			wantCool(t, b, 20)
			wantAllow(t, b, at+11, true)
			b.OK(at + 11)
			b.OK(at + 11)
			wantState(t, b, at+11, half)
			b.OK(at + 11)
			wantState(t, b, at+11, closed)
		}
	}
}

// TestResetOpen (P22.2): what was open is not half open at the time until which it was, and an earlier time stays none.
func TestResetOpen(t *testing.T) {
	b := newBreaker(t, Setting{Fails: 1, Cool: 10, Most: 10, Needs: 1})
	b.Fail(5)
	b.Reset()
	b.Reset()
	for now := range int64(40) {
		wantState(t, b, now, closed)
	}
	b.Reset()
	b.Fail(3)
	wantNow(t, b, 39)
	wantState(t, b, 48, opened)
	wantState(t, b, 49, half)
}

// TestNilAndUnmade (P22.2): a nil breaker, and one that New did not give, is closed, is not asked, and nothing is done to it.
func TestNilAndUnmade(t *testing.T) {
	var none *Breaker
	refused, _ := New(Setting{Fails: 1, Cool: 2, Most: 1, Needs: 1})
	for name, b := range map[string]*Breaker{"nil": none, "refused": refused, "unmade": {}, "new": new(Breaker)} {
		for range 3 {
			for _, now := range []int64{math.MinInt64, -1, 0, 1, 1000, lastTick, lastTick + 1, math.MaxInt64} {
				b.OK(now)
				b.Fail(now)
				b.Leave(now)
				b.Reset()
				if b.State(now) != closed || b.Allow(now) || b.Cool() != 0 || b.Now() != 0 {
					t.Errorf("%s: at %d: State %d, Allow %v, Cool %d, Now %d", name, now, b.State(now), b.Allow(now), b.Cool(), b.Now())
				}
			}
		}
		if b != nil && *b != (Breaker{}) {
			t.Errorf("%s: something was done to it: %v", name, *b)
		}
	}
}

// TestBreakersAlone (R3): what is done to one breaker plays no part in another one of the same setting.
func TestBreakersAlone(t *testing.T) {
	s := Setting{Fails: 2, Cool: 10, Most: 40, Needs: 2}
	a, b := newPair(t, s), newPair(t, s)
	a.times(t, 2, failCall(), 50)
	a.does(t, failCall(), 60)
	b.check(t)
	b.checkKept(t)
	b.times(t, 2, failCall(), 7)
	b.does(t, okCall(), 17)
	a.check(t)
	a.checkKept(t)
	a.reset(t)
	b.check(t)
	b.checkKept(t)
}
