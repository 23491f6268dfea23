package probe

import (
	"math"
	"testing"

	"garboard/rand"
)

// setting is what a prober is set to, how far the time goes on at most from call to call, and how many calls there are.
type setting struct {
	Setting
	ahead int64
	calls int
}

// someSettings are probers that ask often and seldom, wait for short and for as long as they may, and are up and down at once and late.
func someSettings() []setting {
	return []setting{
		{Setting{1, 1, 1, 1}, 1, 400}, {Setting{1, 1, 2, 3}, 2, 600}, {Setting{2, 1, 1, 2}, 2, 600}, {Setting{2, 2, 2, 1}, 2, 600},
		{Setting{10, 5, 1, 1}, 7, 600}, {Setting{10, 5, 3, 2}, 4, 800}, {Setting{10, 10, 2, 3}, 6, 800}, {Setting{10, 9, 3, 3}, 5, 800},
		{Setting{10, 1, 2, 2}, 6, 800}, {Setting{7, 3, 5, 1}, 3, 800}, {Setting{7, 3, 1, 5}, 3, 800}, {Setting{20, 19, 4, 6}, 40, 1000},
		{Setting{5, 4, 100, 1}, 2, 4000}, {Setting{5, 5, 1, 100}, 2, 4000}, {Setting{3, 2, 100, 100}, 1, 6000}, {Setting{100, 40, 10, 10}, 50, 1500},
		{Setting{1 << 30, 1 << 29, 2, 2}, 1 << 28, 1000}, {Setting{1 << 32, 1, 1, 2}, 1 << 31, 400}, {Setting{1 << 32, 1 << 32, 2, 1}, 1 << 31, 400}, {Setting{1<<32 - 1, 1 << 31, 1, 1}, 1 << 31, 400},
	}
}

// draws are what a test's calls are made of. For a while all questions are answered in time, for another while none, or some.
type draws struct {
	*rand.Source
	setting
	answers int // of 8 how many are answered, of late
	left    int // for how many calls that lasts
}

// newDraws are draws that hang on a label and a setting's number.
func newDraws(label, n int, s setting) *draws {
	return &draws{Source: rand.New(rand.Derive(23, uint64(label), uint64(n))), setting: s}
}

// below is a number below another one.
func (d *draws) below(n int) int { return int(d.Next() % uint64(n)) }

// upTo is a number from 0 to another one.
func (d *draws) upTo(n int64) int64 { return int64(d.Next() % uint64(n+1)) }

// feel tells anew for how many of the next calls how many are answered, if it is time.
func (d *draws) feel() {
	d.left--
	if d.left < 0 {
		d.answers = []int{0, 0, 4, 7, 8, 8}[d.below(6)]
		d.left = d.below(12 * (d.Miss + d.Hit + 3))
	}
}

// time is a now of a prober that is known: often the same one, or what is due, or one beside it, seldom one that is none or an earlier one.
func (d *draws) time(now, due int64) int64 {
	switch d.below(16) {
	case 0:
		return []int64{math.MinInt64, -1, lastTick + 1, math.MaxInt64}[d.below(4)]
	case 1:
		return now - 1 - d.upTo(4)
	case 2, 3, 4, 5:
		return now
	case 6, 7, 8, 9, 10:
		return due - 1 + d.upTo(2)
	}
	return now + d.upTo(d.ahead)
}

// otherNumber is a number, seldom the last one's, and never while none are answered.
func (d *draws) otherNumber(asked uint64) uint64 {
	n := []uint64{asked, asked - 1, asked + 1, 0, 1, 1<<64 - 1, asked - 2, d.Next()}[d.below(8)]
	if n == asked && d.answers == 0 {
		return 0
	}
	return n
}

// which is a call of a prober that is known.
func (d *draws) which(b *book) call {
	switch {
	case d.below(8) == 0:
		return pongOf(d.otherNumber(b.asked))
	case b.isOpen && d.below(8) < d.answers:
		return pongCall()
	}
	return tickCall()
}

// call is a call of a prober that is known, and its now: while all are answered, that is ahead of the end of an open one's wait.
func (d *draws) call(b *book) (call, int64) {
	d.feel()
	c, now := d.which(b), d.time(b.now, b.due())
	if b.isOpen && d.answers == 8 && now >= b.end() && now <= lastTick {
		now = b.end() - 1
	}
	return c, now
}

// met is what a call meets behind its now, and whether it answers true.
type met struct {
	call  string
	up    bool
	state string
	is    bool
}

// state is what there is at a now, of a copy of the book.
func (b book) state(now int64) string {
	was := b.isOpen
	b.goOn(now)
	switch {
	case was && !b.isOpen:
		return "missed"
	case b.isOpen:
		return "open"
	}
	return "none"
}

// step is a drawn call, behind which nothing is asked: what it met.
func (d *draws) step(t *testing.T, p pair) met {
	t.Helper()
	c, now := d.call(p.book)
	m := met{call: c.name, up: p.book.up, state: p.book.state(now)}
	m.is = p.asks(t, c, now).is
	return m
}

// someMet are all that calls meet: of an open question no next one is asked, as its wait ends ahead of that.
func someMet() []met {
	var all []met
	for _, up := range []bool{false, true} {
		all = append(all,
			met{"Tick", up, "none", true}, met{"Tick", up, "none", false}, met{"Tick", up, "open", false}, met{"Tick", up, "missed", true}, met{"Tick", up, "missed", false},
			met{"Pong", up, "open", true}, met{"Pong", up, "missed", false},
			met{"Pong of a number", up, "none", false}, met{"Pong of a number", up, "open", false}, met{"Pong of a number", up, "open", true}, met{"Pong of a number", up, "missed", false},
		)
	}
	return all
}

// TestDrawnCalls (P23.1 to P23.5): calls in drawn orders and at drawn times answer as the chapter's words say, and leave behind what they say.
func TestDrawnCalls(t *testing.T) {
	count := map[met]int{}
	for n, s := range someSettings() {
		ups, downs := 0, 0
		for round := range 8 {
			p, d := newPair(t, s.Setting), newDraws(round, n, s)
			for range s.calls {
				was := p.book.up
				count[d.step(t, p)]++
				p.check(t)
				ups += told(!was && p.book.up)
				downs += told(was && !p.book.up)
			}
			p.checkKept(t)
		}
		if ups < 3 || downs < 3 {
			t.Errorf("%v: it came up %d times, and down %d times", s.Setting, ups, downs)
		}
	}
	for _, m := range someMet() {
		if count[m] < 20 {
			t.Errorf("%v was met %d times", m, count[m])
		}
	}
	if len(count) != len(someMet()) {
		t.Errorf("met was %v", count)
	}
}

// told is a number that stands for whether something is so.
func told(is bool) int {
	if is {
		return 1
	}
	return 0
}

// TestDrawnCallsAlone (P23.1, P23.2): so they do where nothing is asked between them.
func TestDrawnCallsAlone(t *testing.T) {
	for n, s := range someSettings() {
		for round := range 40 {
			p, d := newPair(t, s.Setting), newDraws(10+round, n, s)
			for range d.below(s.calls) {
				d.step(t, p)
			}
			p.check(t)
			p.checkKept(t)
		}
	}
}

// TestDrawnLastTicks (P23.1, P23.2): so do calls up to the last tick and at it.
func TestDrawnLastTicks(t *testing.T) {
	open := 0
	for n, s := range someSettings() {
		for round := range 20 {
			p, d := newPair(t, s.Setting), newDraws(50+round, n, s)
			p.does(t, pongOf(0), max(lastTick-int64(1+d.below(8))*s.Every, 0))
			for range d.below(40) {
				d.step(t, p)
				p.check(t)
			}
			p.does(t, tickCall(), lastTick-d.upTo(min(s.Every, 2)))
			p.does(t, tickCall(), lastTick)
			open += told(p.book.isOpen)
			for range 20 {
				d.step(t, p)
				p.check(t)
			}
			wantNow(t, p.prober, lastTick)
			p.checkKept(t)
		}
	}
	if open < 50 {
		t.Errorf("only %d times a question was open at the last tick", open)
	}
}

// both is a call of both, whose answers are not held against each other: the book plays a part in what is drawn alone.
func (p pair) both(c call, now int64) answer {
	asked := p.book.asked
	c.inBook(p.book, now)
	return c.inProber(p.prober, now, asked)
}

// lived is a prober to which calls in a drawn order were done.
func (d *draws) lived(t *testing.T) *Prober {
	t.Helper()
	p := newPair(t, d.Setting)
	for range d.below(d.calls / 4) {
		p.both(d.call(p.book))
	}
	return p.prober
}

// ask has a prober asked at times that are near what is due, until it asks: the question.
func (d *draws) ask(t *testing.T, p *Prober) question {
	t.Helper()
	for range 1000 {
		now := max(p.Now(), p.Due()) - 1 + d.upTo(2)
		if d.below(4) == 0 {
			now = p.Now() + d.upTo(d.ahead)
		}
		if n, is := p.Tick(now); is {
			return question{n, p.Now()}
		}
	}
	t.Fatalf("%v: it asks no more, at %d, where Due is %d", d.Setting, p.Now(), p.Due())
	return question{}
}

// until does calls at drawn times from a question on that are ahead of the end of its wait, none of which is an answer to it.
func (d *draws) until(t *testing.T, p *Prober, q question) {
	t.Helper()
	for range d.below(3) {
		now := min(p.Now()+d.upTo(d.ahead), q.since+d.Wait-1)
		if d.below(2) == 0 {
			wantTick(t, p, now, 0)
			continue
		}
		wantPong(t, p, now, q.n+1+d.Next()%9, false)
	}
}

// TestUpBehindHit (P23.3): one that always answers in time, be it from the first question on or from a later one, is up behind Hit questions, and stays so; told by the calls alone.
func TestUpBehindHit(t *testing.T) {
	for n, s := range someSettings() {
		for round := range 10 {
			d := newDraws(100+round, n, s)
			p := newProber(t, s.Setting)
			if round > 0 {
				p = d.lived(t)
			}
			for answered := range 3*s.Hit + 5 {
				q := d.ask(t, p)
				if round == 0 && p.Up() != (answered >= s.Hit) || answered >= s.Hit && !p.Up() {
					t.Fatalf("%v: behind %d questions that came Up is %v", s.Setting, answered, p.Up())
				}
				d.until(t, p, q)
				wantPong(t, p, p.Now()+d.upTo(q.since+s.Wait-1-p.Now()), q.n, true)
				if answered+1 >= s.Hit {
					wantUp(t, p, true)
				}
			}
		}
	}
}

// TestDownBehindMiss (P23.4): one that answers no more, or too late, or to other questions, is down behind Miss questions, and stays so; told by the calls alone.
func TestDownBehindMiss(t *testing.T) {
	ups := 0
	for n, s := range someSettings() {
		for round := range 20 {
			d := newDraws(200+round, n, s)
			p := d.lived(t)
			ups += told(p.Up())
			for missed := range 3*s.Miss + 5 {
				q := d.ask(t, p)
				if missed >= s.Miss {
					wantUp(t, p, false)
				}
				d.until(t, p, q)
				if d.below(2) == 0 {
					wantPong(t, p, q.since+s.Wait+d.upTo(s.Every-s.Wait), q.n, false)
				} else if missed+1 == s.Miss {
					wantPong(t, p, q.since+s.Wait, 0, false)
				}
				if missed+1 >= s.Miss && p.Now() >= q.since+s.Wait {
					wantUp(t, p, false)
				}
			}
		}
	}
	if ups < 100 {
		t.Errorf("only %d were up", ups)
	}
}

// TestDownBehindMissNotAhead (P23.4): one that was up as it was asked first of the questions that it does not answer is up until the last one of Miss did not come.
func TestDownBehindMissNotAhead(t *testing.T) {
	for n, s := range someSettings() {
		d := newDraws(300, n, s)
		p := newProber(t, s.Setting)
		for range s.Hit {
			q := d.ask(t, p)
			wantPong(t, p, -1, q.n, true)
		}
		for range s.Miss {
			q := d.ask(t, p)
			wantUp(t, p, true)
			wantPong(t, p, q.since+s.Wait-1, 0, false)
			wantUp(t, p, true)
		}
		wantPong(t, p, p.Now()+1, 0, false)
		wantUp(t, p, false)
	}
}

// TestNotMoreOften (P23.5): between two questions there is Every at least, one call asks one at most, and there are no more than the time has room for; told by the calls alone.
func TestNotMoreOften(t *testing.T) {
	asked := 0
	for n, s := range someSettings() {
		for round := range 4 {
			p, d := newPair(t, s.Setting), newDraws(400+round, n, s)
			first, last, number := int64(-1), int64(-1), uint64(0)
			for range s.calls {
				c, now := d.call(p.book)
				if d.below(40) == 0 {
					now = p.book.now + d.upTo(9*s.Every) // so that several were due
				}
				for range 1 + d.below(3) {
					a := p.both(c, now)
					if c.name != "Tick" || !a.is {
						continue
					}
					at := p.prober.Now()
					if last >= 0 && at-last < s.Every || a.n != number+1 {
						t.Fatalf("%v: the question %d is asked at %d, the one ahead was %d at %d", s.Setting, a.n, at, number, last)
					}
					if first < 0 {
						first = at
					}
					last, number = at, a.n
					asked++
				}
			}
			if most := (p.prober.Now()-first)/s.Every + 1; p.prober.Asked() != number || number > uint64(most) {
				t.Errorf("%v: from %d to %d %d were asked, Asked is %d", s.Setting, first, p.prober.Now(), number, p.prober.Asked())
			}
		}
	}
	if asked < 5000 {
		t.Errorf("only %d were asked", asked)
	}
}

// TestSameCallsDoTheSame (R3): two probers to which the same is done answer the same.
func TestSameCallsDoTheSame(t *testing.T) {
	for n, s := range someSettings() {
		p, other, d := newPair(t, s.Setting), newProber(t, s.Setting), newDraws(500, n, s)
		for range s.calls {
			c, now := d.call(p.book)
			asked := p.book.asked
			if x, y := p.asks(t, c, now), c.inProber(other, now, asked); x != y {
				t.Fatalf("%s at %d is %v and %v", c.name, now, x, y)
			}
			if p.prober.Up() != other.Up() || p.prober.Due() != other.Due() || p.prober.Now() != other.Now() || p.prober.Asked() != other.Asked() {
				t.Fatalf("behind %s at %d they are unlike: %+v and %+v", c.name, now, *p.prober, *other)
			}
		}
	}
}
