package breaker

import (
	"testing"

	"garboard/api"
)

// What the chapter tells by numbers.
const (
	closed = 0
	opened = 1
	half   = 2

	lastTick = 1 << 40
)

// book is what is known of a breaker, and does what the chapter's words say, step by step.
type book struct {
	Setting
	now       int64
	state     int
	until     int64 // of an open one
	trial     bool  // of a half open one
	failures  int
	successes int
	next      int64 // for how long it opens next
}

// newBook is a closed one.
func newBook(s Setting) *book { return &book{Setting: s, next: s.Cool} }

// goOn has the time of a call, from which on an open one whose time is not behind it is half open.
func (b *book) goOn(now int64) {
	isTime := now >= 0 && now <= lastTick
	if isTime && now >= b.now {
		b.now = now
	}
	if isBehind := b.until > b.now; b.state == opened && !isBehind {
		b.state, b.trial, b.successes = half, false, 0
	}
}

// stateAt is State.
func (b *book) stateAt(now int64) int {
	b.goOn(now)
	return b.state
}

// allow is Allow.
func (b *book) allow(now int64) bool {
	b.goOn(now)
	switch {
	case b.state == closed:
		return true
	case b.state == half && !b.trial:
		b.trial = true
		return true
	}
	return false
}

// ok is OK.
func (b *book) ok(now int64) {
	b.goOn(now)
	if b.state == closed {
		b.failures = 0
	}
	if b.state != half {
		return
	}
	b.trial = false
	b.successes++
	if b.successes == b.Needs {
		b.state, b.failures, b.next = closed, 0, b.Cool
	}
}

// fail is Fail.
func (b *book) fail(now int64) {
	b.goOn(now)
	opens := b.state == half
	if b.state == closed {
		b.failures++
		opens = b.failures == b.Fails
	}
	if !opens {
		return
	}
	b.state, b.until = opened, b.now+b.next
	b.next *= 2
	if b.next > b.Most {
		b.next = b.Most
	}
}

// leave is Leave.
func (b *book) leave(now int64) {
	b.goOn(now)
	if b.state == half {
		b.trial = false
	}
}

// reset is Reset.
func (b *book) reset() {
	now := b.now
	*b = *newBook(b.Setting)
	b.now = now
}

// call is one with a now, of a breaker and of its book; a number stands for what it answers, 0 where it answers nothing.
type call struct {
	name    string
	breaker func(*Breaker, int64) int
	book    func(*book, int64) int
}

// told is a number that stands for whether something is so.
func told(is bool) int {
	if is {
		return 1
	}
	return 0
}

// quiet is a call that answers nothing.
func quiet(name string, one func(*Breaker, int64), other func(*book, int64)) call {
	return call{name, func(b *Breaker, now int64) int { one(b, now); return 0 }, func(b *book, now int64) int { other(b, now); return 0 }}
}

// stateCall, and those behind it, are the calls with a now.
func stateCall() call { return call{"State", (*Breaker).State, (*book).stateAt} }

func allowCall() call {
	return call{"Allow", func(b *Breaker, now int64) int { return told(b.Allow(now)) }, func(b *book, now int64) int { return told(b.allow(now)) }}
}

func okCall() call    { return quiet("OK", (*Breaker).OK, (*book).ok) }
func failCall() call  { return quiet("Fail", (*Breaker).Fail, (*book).fail) }
func leaveCall() call { return quiet("Leave", (*Breaker).Leave, (*book).leave) }

// callsWithNow are all of them.
func callsWithNow() []call {
	return []call{stateCall(), allowCall(), okCall(), failCall(), leaveCall()}
}

// newBreaker is a closed breaker.
func newBreaker(t *testing.T, s Setting) *Breaker {
	t.Helper()
	b, err := New(s)
	if b == nil || err != api.OK {
		t.Fatalf("New(%v) is %v, %v", s, b, err)
	}
	return b
}

// pair is a breaker, and its book.
type pair struct {
	breaker *Breaker
	book    *book
}

// newPair is a closed breaker, and its book.
func newPair(t *testing.T, s Setting) pair {
	t.Helper()
	p := pair{breaker: newBreaker(t, s), book: newBook(s)}
	p.check(t)
	return p
}

// copied is another pair, to which the same was done; a breaker is a struct that has nothing in common with a copy of it.
func (p pair) copied() pair {
	one, other := *p.breaker, *p.book
	return pair{breaker: &one, book: &other}
}

// asks does a call in both, which answer the same; nothing else is asked, as that might do what the call should have done.
func (p pair) asks(t *testing.T, c call, now int64) int {
	t.Helper()
	ahead := *p.book
	got, want := c.breaker(p.breaker, now), c.book(p.book, now)
	if got != want {
		t.Fatalf("%s(%d) is %d, want %d, of %+v", c.name, now, got, want, ahead)
	}
	return got
}

// does does a call in both, and tells where they are not the same behind it.
func (p pair) does(t *testing.T, c call, now int64) int {
	t.Helper()
	got := p.asks(t, c, now)
	p.check(t)
	return got
}

// times does a call so many times in both, at one time.
func (p pair) times(t *testing.T, n int, c call, now int64) {
	t.Helper()
	for range n {
		p.does(t, c, now)
	}
}

// reset resets both.
func (p pair) reset(t *testing.T) {
	t.Helper()
	p.breaker.Reset()
	p.book.reset()
	p.check(t)
}

// check tells where a breaker tells otherwise than its book.
func (p pair) check(t *testing.T) {
	t.Helper()
	if got := p.breaker.Now(); got != p.book.now {
		t.Fatalf("Now is %d, want %d, of %+v", got, p.book.now, *p.book)
	}
	if got := p.breaker.Cool(); got != p.book.next {
		t.Fatalf("Cool is %d, want %d, of %+v", got, p.book.next, *p.book)
	}
	for _, now := range []int64{p.book.now, -1} {
		if got := p.breaker.State(now); got != p.book.state {
			t.Fatalf("State(%d) is %d, want %d, of %+v", now, got, p.book.state, *p.book)
		}
	}
}

// checkKept tells where a breaker keeps otherwise than its book what no call answers: until when it is open, whether a trial is under way, and what is counted; told by what copies of it do.
func (p pair) checkKept(t *testing.T) {
	t.Helper()
	switch p.book.state {
	case closed:
		p.checkCount(t, "failures", p.book.Fails-p.book.failures, (*Breaker).Fail, opened)
	case opened:
		p.checkUntil(t)
	case half:
		p.checkTrial(t)
		p.checkCount(t, "successes", p.book.Needs-p.book.successes, (*Breaker).OK, closed)
	}
}

// checkCount tells where another number of calls than so many leads to a state.
func (p pair) checkCount(t *testing.T, what string, more int, call func(*Breaker, int64), state int) {
	t.Helper()
	b := p.copied().breaker
	for n := range more {
		if b.State(-1) != p.book.state {
			t.Fatalf("behind %d more %s the state is %d, want that behind %d, of %+v", n, what, b.State(-1), more, *p.book)
		}
		call(b, -1)
	}
	if b.State(-1) != state {
		t.Fatalf("behind %d more %s the state is %d, of %+v", more, what, b.State(-1), *p.book)
	}
}

// checkUntil tells where an open one is open until another time.
func (p pair) checkUntil(t *testing.T) {
	t.Helper()
	for _, now := range []int64{p.book.until - 1, p.book.until, p.book.until + 1, lastTick} {
		c := p.copied()
		c.asks(t, stateCall(), now)
		c.check(t)
	}
}

// checkTrial tells where a half open one is asked of otherwise.
func (p pair) checkTrial(t *testing.T) {
	t.Helper()
	c := p.copied()
	for _, want := range []int{told(!p.book.trial), 0} {
		if got := c.asks(t, allowCall(), -1); got != want {
			t.Fatalf("Allow is %d, want %d, of %+v", got, want, *p.book)
		}
	}
}

// wantState tells where the state at a time is another one.
func wantState(t *testing.T, b *Breaker, now int64, want int) {
	t.Helper()
	if got := b.State(now); got != want {
		t.Fatalf("State(%d) is %d, want %d", now, got, want)
	}
}

// wantAllow tells where Allow is otherwise.
func wantAllow(t *testing.T, b *Breaker, now int64, want bool) {
	t.Helper()
	if got := b.Allow(now); got != want {
		t.Fatalf("Allow(%d) is %v, want %v", now, got, want)
	}
}

// wantCool tells where it opens for another time.
func wantCool(t *testing.T, b *Breaker, want int64) {
	t.Helper()
	if got := b.Cool(); got != want {
		t.Fatalf("Cool is %d, want %d", got, want)
	}
}

// wantNow tells where the time is another one.
func wantNow(t *testing.T, b *Breaker, want int64) {
	t.Helper()
	if got := b.Now(); got != want {
		t.Fatalf("Now is %d, want %d", got, want)
	}
}

// somewhere is a breaker to which something was done, at a time.
type somewhere struct {
	name string
	pair
}

// everywhere are breakers in each state, at a time from 0 to below 2^40, with Fails 3, Cool 10, Most 35 and Needs 3.
func everywhere(t *testing.T, at int64) []somewhere {
	t.Helper()
	in := func(name string, state int, doTo func(p pair)) somewhere {
		p := newPair(t, Setting{Fails: 3, Cool: 10, Most: 35, Needs: 3})
		doTo(p)
		if p.does(t, stateCall(), at) != state || p.book.now != at {
			t.Fatalf("%s: the state is %d, at %d", name, p.book.state, p.book.now)
		}
		return somewhere{name, p}
	}
	open := func(p pair, from int64) { p.times(t, 3, failCall(), max(from, 0)) }
	tried := func(p pair, more ...call) {
		open(p, at-10)
		for _, c := range more {
			p.does(t, c, at)
		}
	}
	all := []somewhere{
		in("closed", closed, func(p pair) {}),
		in("closed, with failures", closed, func(p pair) { p.times(t, 2, failCall(), at) }),
		in("open", opened, func(p pair) { open(p, at) }),
	}
	if at < 30 {
		return all
	}
	return append(all,
		in("open for some time", opened, func(p pair) { open(p, at-9) }),
		in("open once more", opened, func(p pair) { open(p, at-20); p.does(t, failCall(), at-1) }),
		in("half open", half, func(p pair) { tried(p) }),
		in("half open, with a trial", half, func(p pair) { tried(p, allowCall()) }),
		in("half open, with successes", half, func(p pair) { tried(p, okCall(), okCall()) }),
		in("half open, with successes and a trial", half, func(p pair) { tried(p, okCall(), okCall(), allowCall()) }),
		in("half open once more", half, func(p pair) { open(p, at-30); p.does(t, failCall(), at-20) }),
		in("closed again", closed, func(p pair) { tried(p, okCall(), okCall(), okCall()) }),
	)
}
