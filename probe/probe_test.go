package probe

import (
	"math"
	"testing"

	"garboard/api"
)

// TestExample: the chapter's example.
func TestExample(t *testing.T) {
	for _, inARow := range []int{1, 2, 100} {
		p := newProber(t, Setting{Every: 10, Wait: 5, Miss: inARow, Hit: inARow})
		wantTick(t, p, 0, 1)
		wantPong(t, p, 4, 1, true)
		wantPong(t, p, 4, 1, false)
	}
}

// part is a part of a setting, and whether it may be.
type part struct {
	n   int64
	may bool
}

// inARow are numbers of misses and hits.
func inARow() []part {
	return []part{{math.MinInt, false}, {-100, false}, {-1, false}, {0, false}, {1, true}, {2, true}, {99, true}, {100, true}, {101, false}, {1 << 32, false}, {1<<32 + 1, false}, {math.MaxInt, false}}
}

// everies are ticks from question to question.
func everies() []part {
	return []part{{math.MinInt64, false}, {-1 << 32, false}, {-1, false}, {0, false}, {1, true}, {2, true}, {10, true}, {1<<32 - 1, true}, {1 << 32, true}, {1<<32 + 1, false}, {1 << 40, false}, {math.MaxInt64, false}}
}

// waits are ticks for which an answer is waited for, where one is asked each every ticks; whether they may be counts where every may be alone.
func waits(every int64) []part {
	return []part{
		{math.MinInt64, false}, {-every, false}, {-1, false}, {0, false}, {1, true}, {every - 1, every > 1}, {every, true}, {every + 1, false},
		{1 << 32, every == 1<<32}, {1<<32 + 1, false}, {1 << 40, false}, {math.MaxInt64, false},
	}
}

// TestNew (P23.1): settings whose parts are within their bounds, at them and beyond them, one alone and several at once.
func TestNew(t *testing.T) {
	taken, refused := 0, 0
	for _, miss := range inARow() {
		for _, hit := range inARow() {
			for _, every := range everies() {
				for _, wait := range waits(every.n) {
					s := Setting{Every: every.n, Wait: wait.n, Miss: int(miss.n), Hit: int(hit.n)}
					if miss.may && hit.may && every.may && wait.may {
						p := newPair(t, s)
						p.asked(t, 0)
						taken++
						continue
					}
					if p, err := New(s); p != nil || err != api.ErrArg {
						t.Fatalf("New(%v) is %v, %v", s, p, err)
					}
					refused++
				}
			}
		}
	}
	if taken < 200 || refused < 1000 {
		t.Errorf("%d are taken, %d are refused", taken, refused)
	}
}

// TestNewNone (P23.1): the setting that has nothing, and ones of which a part alone is told, are none.
func TestNewNone(t *testing.T) {
	for _, s := range []Setting{{}, {Every: 1}, {Wait: 1}, {Miss: 1}, {Hit: 1}, {Wait: 1, Miss: 1, Hit: 1}, {Every: 1, Miss: 1, Hit: 1}, {Every: 1, Wait: 1, Hit: 1}, {Every: 1, Wait: 1, Miss: 1}} {
		if p, err := New(s); p != nil || err != api.ErrArg {
			t.Errorf("New(%v) is %v, %v", s, p, err)
		}
	}
}

// TestNewDown (P23.1): New's is down at the time 0, nothing is counted, no question is open, and it asks first at 0, whenever that is asked for.
func TestNewDown(t *testing.T) {
	for _, s := range []Setting{{1, 1, 1, 1}, {10, 5, 1, 1}, {10, 10, 3, 2}, {1 << 32, 1, 100, 100}, {1 << 32, 1 << 32, 1, 100}} {
		p := newProber(t, s)
		for range 3 {
			wantUp(t, p, false)
			wantDue(t, p, 0)
			wantNow(t, p, 0)
			wantAsked(t, p, 0)
			wantPong(t, p, 0, 0, false)
			wantPong(t, p, 0, 1, false)
		}
		newPair(t, s).checkKept(t)
		for _, now := range []int64{0, -1, 1, 77, 1 << 33, lastTick} {
			late := newPair(t, s)
			late.does(t, pongOf(1), now)
			wantDue(t, late.prober, 0)
			late.asked(t, now)
			wantAsked(t, late.prober, 1)
			late.checkKept(t)
		}
	}
}

// someNows are nows of a prober whose time is at: its own, earlier and later ones, and ones that are none; and the time that it has then.
func someNows(at int64) map[int64]int64 {
	return map[int64]int64{
		at: at, at - 1: at, at - 6: at, 0: at, -1: at, -at - 1: at, math.MinInt64: at, math.MinInt64 + 1: at,
		min(at+1, lastTick): min(at+1, lastTick), min(at+6, lastTick): min(at+6, lastTick), min(at+10, lastTick): min(at+10, lastTick), lastTick - 1: max(at, lastTick-1), lastTick: lastTick,
		lastTick + 1: at, lastTick + at + 1: at, 1 << 41: at, math.MaxInt64 - 1: at, math.MaxInt64: at,
	}
}

// someTimes are times of probers from everywhere.
func someTimes() []int64 { return []int64{0, 100, 1000, 1 << 33, lastTick - 20, lastTick} }

// TestNow (P23.1, P23.2): the time is the last now that was one, and not an earlier one; whichever call has it, with and without an open question.
func TestNow(t *testing.T) {
	for _, at := range someTimes() {
		for _, s := range everywhere(at) {
			for _, c := range callsWithNow() {
				for now, want := range someNows(at) {
					p := s.pair(t, at)
					c.inProber(p.prober, now, p.book.asked)
					if got := p.prober.Now(); got != want {
						t.Fatalf("%v, at %d: behind %s at %d the time is %d, want %d", s, at, c.name, now, got, want)
					}
				}
			}
		}
	}
}

// TestNowEverywhere (P23.1, P23.2): each call, with each now, of each prober, does what the chapter's words say; and so does a second one behind it.
func TestNowEverywhere(t *testing.T) {
	for _, at := range []int64{0, 100, lastTick - 20, lastTick} {
		for _, s := range everywhere(at) {
			for now, then := range someNows(at) {
				for _, c := range callsWithNow() {
					for _, more := range callsWithNow() {
						p := s.pair(t, at)
						p.asks(t, c, now)
						p.does(t, more, then)
						p.checkKept(t)
					}
					p := s.pair(t, at)
					p.does(t, c, now)
				}
			}
		}
	}
}

// TestOtherTimes (P23.1, P23.2): a call whose now is none, or an earlier one, does at the prober's time what it does.
func TestOtherTimes(t *testing.T) {
	for _, now := range []int64{math.MinInt64, -1, 0, 1, 99, 100, lastTick + 1, math.MaxInt64} {
		p := newProber(t, Setting{Every: 10, Wait: 5, Miss: 1, Hit: 1})
		wantPong(t, p, 100, 1, false)
		wantTick(t, p, now, 1)
		wantDue(t, p, 105)
		wantTick(t, p, now, 0)
		wantPong(t, p, now, 1, true)
		wantUp(t, p, true)
		wantDue(t, p, 110)
		wantTick(t, p, now, 0)
		wantTick(t, p, 110, 2)
		wantPong(t, p, 114, 1, false)
		wantTick(t, p, now, 0)
		wantUp(t, p, true)
		wantPong(t, p, 115, 2, false)
		wantUp(t, p, false)
		wantPong(t, p, now, 2, false)
		wantTick(t, p, now, 0)
		wantPong(t, p, 120, 2, false)
		wantTick(t, p, now, 3)
		wantNow(t, p, 120)
	}
}

// TestTickTime (P23.1): a question is asked at its time and behind it, not a tick ahead of it; the next one Every behind when it was asked, not behind when it might have been.
func TestTickTime(t *testing.T) {
	for _, every := range []int64{1, 2, 10, 1000, 1 << 31, 1<<32 - 1, 1 << 32} {
		for _, wait := range []int64{1, (every + 1) / 2, every} {
			for _, late := range []int64{0, 1, every - 1, every, every + 1, 2*every - 1, 2 * every, 7 * every, 1 << 36} {
				p := newProber(t, Setting{Every: every, Wait: wait, Miss: 2, Hit: 1})
				wantTick(t, p, 0, 1)
				for n := uint64(2); n < 6; n++ {
					due := p.Now() + every
					wantTick(t, p, p.Now(), 0)
					wantTick(t, p, due-1, 0)
					wantTick(t, p, due+late, n)
					wantNow(t, p, due+late)
					wantAsked(t, p, n)
				}
			}
		}
	}
}

// TestTickFirst (P23.1): the first question is asked behind 0, too, and the second one Every behind it.
func TestTickFirst(t *testing.T) {
	for _, at := range []int64{0, 1, 9, 10, 11, 1 << 35} {
		p := newProber(t, Setting{Every: 10, Wait: 3, Miss: 1, Hit: 1})
		wantTick(t, p, at, 1)
		wantTick(t, p, at, 0)
		wantTick(t, p, at+9, 0)
		wantTick(t, p, at+10, 2)
	}
}

// TestTickRefused (P23.1): Ticks ahead of the time put nothing off.
func TestTickRefused(t *testing.T) {
	p := newProber(t, Setting{Every: 100, Wait: 40, Miss: 1, Hit: 1})
	wantTick(t, p, 7, 1)
	for now := int64(7); now < 107; now++ {
		wantTick(t, p, now, 0)
		wantAsked(t, p, 1)
	}
	wantTick(t, p, 107, 2)
}

// TestNumbers (P23.1): questions have the numbers from 1 on, each one more than the one ahead, whether they come or not.
func TestNumbers(t *testing.T) {
	p := newProber(t, Setting{Every: 1, Wait: 1, Miss: 100, Hit: 100})
	for n := uint64(1); n <= 1<<17; n++ {
		now := int64(n)
		wantTick(t, p, now, n)
		if n%3 == 0 {
			wantPong(t, p, now, n, true)
		}
		wantAsked(t, p, n)
	}
}

// TestWaitEnds (P23.1, P23.2): an answer comes a tick ahead of the end of its wait, not at it or behind it, and whichever call has that time tells that it did not come.
func TestWaitEnds(t *testing.T) {
	for _, wait := range []int64{1, 2, 5, 9, 10, 1 << 31, 1<<32 - 1, 1 << 32} {
		for _, from := range []int64{0, 1, 1000} {
			for _, c := range callsWithNow() {
				for _, late := range []int64{-1, 0, 1, 3, 1 << 35} {
					s := Setting{Every: max(wait, 10), Wait: wait, Miss: 1, Hit: 1}
					p := newPair(t, s)
					p.asked(t, from)
					p.does(t, pongCall(), from)
					n := p.asked(t, from+s.Every)
					end := from + s.Every + wait
					p.asks(t, c, end+late)
					wantUp(t, p.prober, late < 0)
					if c.name == "Pong" {
						continue
					}
					wantPong(t, p.prober, -1, n, late < 0)
					wantUp(t, p.prober, late < 0)
				}
			}
		}
	}
}

// TestWaitEndsOnce (P23.1): a question that did not come is missed once, however many calls come behind, and what comes of it is no answer any more.
func TestWaitEndsOnce(t *testing.T) {
	for _, c := range callsWithNow() {
		p := newPair(t, Setting{Every: 100, Wait: 5, Miss: 2, Hit: 1})
		p.rounds(t, 0, "hm")
		for now := int64(100); now < 200; now++ {
			if now >= 105 || c.name != "Pong" {
				p.does(t, c, now)
				wantUp(t, p.prober, true)
			}
		}
		p.asked(t, 200)
		p.does(t, c, 204)
		wantUp(t, p.prober, true)
		if c.name == "Pong" {
			continue
		}
		p.does(t, c, 205)
		wantUp(t, p.prober, false)
	}
}

// TestStillOpen (P23.1): a question that is open as the next one is asked did not come, and is missed once; of the two the later one alone is open then.
func TestStillOpen(t *testing.T) {
	for _, wait := range []int64{1, 4, 9, 10} {
		for _, late := range []int64{0, 1, 30} {
			p := newProber(t, Setting{Every: 10, Wait: wait, Miss: 3, Hit: 1})
			wantTick(t, p, 0, 1)
			wantPong(t, p, 0, 1, true)
			now := int64(0)
			for n := uint64(2); n <= 4; n++ {
				now += 10 + late
				wantTick(t, p, now, n)
				wantUp(t, p, true)
				wantPong(t, p, now, n-1, false)
				wantDue(t, p, now+wait)
			}
			wantUp(t, p, true)
			now += 10 + late
			wantTick(t, p, now, 5)
			wantUp(t, p, false)
			wantPong(t, p, now, 4, false)
			wantPong(t, p, now, 5, true)
			wantUp(t, p, true)
		}
	}
}

// TestPongNumber (P23.2): the open question's number alone is answered, and that once.
func TestPongNumber(t *testing.T) {
	p := newProber(t, Setting{Every: 10, Wait: 5, Miss: 100, Hit: 3})
	others := func(now int64, some ...uint64) {
		t.Helper()
		due := p.Due()
		for range 3 {
			for _, n := range append(some, 0, 1<<8, 1<<16, 1<<32, 1<<63-1, 1<<63, 1<<64-2, 1<<64-1) {
				wantPong(t, p, now, n, false)
			}
		}
		wantUp(t, p, false)
		wantDue(t, p, due)
	}
	others(0, 1, 2)
	wantTick(t, p, 0, 1)
	others(1, 2, 3, 1<<32+1)
	wantPong(t, p, 4, 1, true)
	others(4, 1, 2, 3)
	wantTick(t, p, 10, 2)
	others(11, 1, 3, 1<<32+2)
	wantPong(t, p, 14, 2, true)
	others(14, 1, 2, 3)
	wantTick(t, p, 20, 3)
	others(24, 1, 2, 4)
	wantPong(t, p, 25, 3, false)
	others(25, 1, 2, 3, 4)
	wantTick(t, p, 30, 4)
	others(30, 1, 2, 3, 5)
	wantPong(t, p, 30, 4, true)
	others(30, 1, 2, 3, 4, 5)
	wantAsked(t, p, 4)
}

// someInARow are as many in a row as are asked for.
func someInARow() []int { return []int{1, 2, 3, 7, 50, 99, 100} }

// TestHits (P23.2): with as many hits as Hit it is up, not with one fewer; a miss among them has none counted any more.
func TestHits(t *testing.T) {
	for _, hit := range someInARow() {
		for _, miss := range []int{1, 2, 100} {
			s := Setting{Every: 10, Wait: 5, Miss: miss, Hit: hit}
			p := newProber(t, s)
			for n := range hit {
				now := int64(n) * 10
				wantTick(t, p, now, uint64(n+1))
				wantUp(t, p, false)
				wantPong(t, p, now+4, uint64(n+1), true)
			}
			wantUp(t, p, true)

			for among := range min(hit, 5) {
				p := newPair(t, s)
				p.rounds(t, 0, letters(among, "h")+"m"+letters(hit-1, "h"))
				wantUp(t, p.prober, false)
				p.rounds(t, p.book.next, "h")
				wantUp(t, p.prober, true)
			}
		}
	}
}

// TestMisses (P23.1): with as many misses as Miss it is down, not with one fewer; an answer among them has none counted any more.
func TestMisses(t *testing.T) {
	for _, miss := range someInARow() {
		for _, hit := range []int{1, 2, 100} {
			s := Setting{Every: 10, Wait: 5, Miss: miss, Hit: hit}
			up := func() pair {
				p := newPair(t, s)
				p.rounds(t, 0, letters(hit, "h"))
				wantUp(t, p.prober, true)
				return p
			}
			p := up()
			for range miss {
				p.asked(t, p.book.next)
				p.does(t, pongOf(0), p.book.now+4)
				wantUp(t, p.prober, true)
				p.does(t, pongOf(0), p.book.now+1)
			}
			wantUp(t, p.prober, false)

			for among := range min(miss, 5) {
				p := up()
				p.rounds(t, p.book.next, letters(among, "m")+"h"+letters(miss-1, "m"))
				p.does(t, pongOf(0), p.book.now+5)
				wantUp(t, p.prober, true)
				p.rounds(t, p.book.next, "m")
				wantUp(t, p.prober, true)
				p.does(t, pongOf(0), p.book.now+5)
				wantUp(t, p.prober, false)
			}
		}
	}
}

// letters are so many of one letter.
func letters(n int, letter string) string {
	var all string
	for range n {
		all += letter
	}
	return all
}

// TestOnes (P23.1, P23.2): with Miss and Hit of 1 each answer has it up, and each miss down.
func TestOnes(t *testing.T) {
	p := newProber(t, Setting{Every: 2, Wait: 1, Miss: 1, Hit: 1})
	for n := uint64(1); n < 100; n++ {
		now := int64(n) * 2
		up := p.Up()
		wantTick(t, p, now, n)
		wantUp(t, p, up)
		if n%3 != 0 {
			wantPong(t, p, now, n, true)
			wantUp(t, p, true)
			continue
		}
		wantPong(t, p, now+1, n, false)
		wantUp(t, p, false)
	}
}

// wantUpBehindThree tells where one that is down, with Hit 3, comes up behind another number of answers.
func (p pair) wantUpBehindThree(t *testing.T) {
	t.Helper()
	p.rounds(t, p.book.next, "hh")
	wantUp(t, p.prober, false)
	p.rounds(t, p.book.next, "h")
	wantUp(t, p.prober, true)
}

// wantDownBehindThree tells where one that is up, with Wait 5 and Miss 3, goes down behind another number of misses.
func (p pair) wantDownBehindThree(t *testing.T) {
	t.Helper()
	p.rounds(t, p.book.next, "mmm")
	p.does(t, pongOf(0), p.book.now+4)
	wantUp(t, p.prober, true)
	p.does(t, pongOf(0), p.book.now+1)
	wantUp(t, p.prober, false)
}

// TestMoreHits (P23.2): one that is up stays so with more answers, whose number plays no part in how many misses have it down, or in how many hits have it up again.
func TestMoreHits(t *testing.T) {
	for _, more := range []int{1, 2, 3, 4, 99, 100, 101, 300} {
		p := newPair(t, Setting{Every: 10, Wait: 5, Miss: 3, Hit: 3})
		p.rounds(t, 0, "hhh")
		for range more {
			p.rounds(t, p.book.next, "h")
			wantUp(t, p.prober, true)
		}
		p.wantDownBehindThree(t)
		p.wantUpBehindThree(t)
	}
}

// TestMoreMisses (P23.1): one that is down stays so with more misses, whose number plays no part in how many hits have it up, or in how many misses have it down again.
func TestMoreMisses(t *testing.T) {
	for _, more := range []int{1, 2, 3, 4, 99, 100, 101, 300} {
		for _, ahead := range []string{"", "h", "hh", "hhhmmm"} {
			p := newPair(t, Setting{Every: 10, Wait: 5, Miss: 3, Hit: 3})
			p.rounds(t, 0, ahead)
			for range more {
				p.rounds(t, p.book.next, "m")
				p.does(t, pongOf(0), p.book.now+5)
				wantUp(t, p.prober, false)
			}
			p.wantUpBehindThree(t)
			p.wantDownBehindThree(t)
		}
	}
}

// TestDue (P23.2): what is due is the end of an open question's wait, if that is ahead of the next time, else the next time; and it stays as the time goes by without it.
func TestDue(t *testing.T) {
	for _, every := range []int64{1, 2, 10, 1<<32 - 1, 1 << 32} {
		for _, wait := range []int64{1, (every + 1) / 2, max(every-1, 1), every} {
			for _, from := range []int64{0, 3, 1 << 36} {
				p := newProber(t, Setting{Every: every, Wait: wait, Miss: 1, Hit: 1})
				wantDue(t, p, 0)
				wantPong(t, p, from, 1, false)
				wantDue(t, p, 0)
				wantTick(t, p, from, 1)
				wantDue(t, p, from+wait)
				wantTick(t, p, from+wait-1, 0)
				wantDue(t, p, from+wait)
				wantPong(t, p, from+wait-1, 1, true)
				wantDue(t, p, from+every)
				wantPong(t, p, from+2*every+5, 1, false)
				wantDue(t, p, from+every)

				from += 2*every + 5
				wantTick(t, p, from, 2)
				wantDue(t, p, from+wait)
				wantPong(t, p, from+wait, 2, false)
				wantDue(t, p, from+every)
				wantTick(t, p, from+every, 3)
				wantDue(t, p, from+every+wait)
			}
		}
	}
}

// TestDueDoes (P23.2): a call at what is due does something, one ahead of it nothing: what is asked then, or did not come.
func TestDueDoes(t *testing.T) {
	for _, wait := range []int64{1, 5, 9, 10} {
		p := newProber(t, Setting{Every: 10, Wait: wait, Miss: 1, Hit: 1})
		for n := uint64(1); n < 20; n += 2 {
			if p.Due() > p.Now() {
				wantTick(t, p, p.Due()-1, 0)
				wantAsked(t, p, n-1)
			}
			wantTick(t, p, p.Due(), n)
			wantPong(t, p, -1, n, true)
			wantTick(t, p, p.Due(), n+1)
			due := p.Due()
			wantPong(t, p, due-1, 0, false)
			wantUp(t, p, true)
			wantPong(t, p, due, 0, false)
			wantUp(t, p, false)
		}
	}
}

// TestLastTicks (P23.1, P23.2): near the last tick, and at it, questions are asked as ever; what would be due beyond it is due then, and no time comes to that.
func TestLastTicks(t *testing.T) {
	for _, s := range []Setting{{1, 1, 1, 1}, {10, 6, 1, 1}, {10, 10, 1, 1}, {1 << 32, 1 << 31, 1, 1}, {1 << 32, 1 << 32, 1, 1}} {
		for beyond := -s.Every - 1; beyond <= s.Every+1; beyond += max(1, s.Every/7) {
			for _, end := range []int64{lastTick - s.Every, lastTick - s.Wait} {
				from := min(end+beyond, lastTick)
				p := newProber(t, s)
				wantTick(t, p, from, 1)
				wantDue(t, p, from+s.Wait)
				wantPong(t, p, from, 1, true)
				wantDue(t, p, from+s.Every)
				if from+s.Every > lastTick {
					wantLast(t, p, 0)
					continue
				}
				wantTick(t, p, from+s.Every-1, 0)
				wantTick(t, p, from+s.Every, 2)
				wantDue(t, p, from+s.Every+s.Wait)
				if from+s.Every+s.Wait <= lastTick {
					wantPong(t, p, from+s.Every+s.Wait, 2, false)
					wantUp(t, p, false)
					continue
				}
				wantLast(t, p, 2)
			}
		}
	}
}

// wantLast tells where one that is up, and for which nothing is due until the last tick, does something at it; open is the open question's number, 0 if there is none.
func wantLast(t *testing.T, p *Prober, open uint64) {
	t.Helper()
	due, asked := p.Due(), p.Asked()
	for _, now := range []int64{lastTick, due, due - 1, due + 1, lastTick + 1, lastTick + 1<<33, math.MaxInt64} {
		wantTick(t, p, now, 0)
		wantPong(t, p, now, 0, false)
		wantPong(t, p, now, asked+1, false)
		wantNow(t, p, lastTick)
		wantDue(t, p, due)
		wantUp(t, p, true)
	}
	wantPong(t, p, due, asked, open == asked)
	wantPong(t, p, due, asked, false)
	wantTick(t, p, due, 0)
	wantAsked(t, p, asked)
	wantUp(t, p, true)
}

// TestAtLastTick (P23.1): at the last tick one question is asked at most, and it stays open until it comes.
func TestAtLastTick(t *testing.T) {
	p := newPair(t, Setting{Every: 1, Wait: 1, Miss: 1, Hit: 2})
	p.asked(t, lastTick)
	for range 5 {
		for _, c := range callsWithNow() {
			if c.name != "Pong" {
				p.does(t, c, lastTick)
				p.does(t, c, lastTick+1)
			}
		}
		wantDue(t, p.prober, lastTick+1)
	}
	wantPong(t, p.prober, lastTick, 1, true)
	wantPong(t, p.prober, lastTick, 1, false)
	wantDue(t, p.prober, lastTick+1)
	wantTick(t, p.prober, lastTick, 0)
}

// TestNilAndUnmade (P23.2): a nil prober, and one that New did not give, asks nothing, is answered nothing, and is down.
func TestNilAndUnmade(t *testing.T) {
	var none *Prober
	refused, _ := New(Setting{Every: 1, Wait: 2, Miss: 1, Hit: 1})
	for name, p := range map[string]*Prober{"nil": none, "refused": refused, "unmade": {}, "new": new(Prober)} {
		for range 3 {
			for _, now := range []int64{math.MinInt64, -1, 0, 1, 1000, lastTick, lastTick + 1, math.MaxInt64} {
				if n, is := p.Tick(now); n != 0 || is {
					t.Errorf("%s: Tick(%d) is %d, %v", name, now, n, is)
				}
				for _, n := range []uint64{0, 1, 2, 1<<64 - 1} {
					if p.Pong(now, n) {
						t.Errorf("%s: Pong(%d, %d)", name, now, n)
					}
				}
				if p.Up() || p.Due() != lastTick || p.Now() != 0 || p.Asked() != 0 {
					t.Errorf("%s: at %d: Up %v, Due %d, Now %d, Asked %d", name, now, p.Up(), p.Due(), p.Now(), p.Asked())
				}
			}
		}
	}
}

// TestProbersAlone (R3): what is done to one prober plays no part in another one of the same setting.
func TestProbersAlone(t *testing.T) {
	s := Setting{Every: 10, Wait: 6, Miss: 2, Hit: 2}
	a, b := newPair(t, s), newPair(t, s)
	a.rounds(t, 50, "hhm")
	b.check(t)
	b.rounds(t, 7, "mh")
	a.check(t)
	a.checkKept(t)
	b.check(t)
	b.checkKept(t)
	newPair(t, s).checkKept(t)
}
