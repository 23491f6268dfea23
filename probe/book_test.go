package probe

import (
	"testing"

	"garboard/api"
)

// lastTick is the last time that there is.
const lastTick = 1 << 40

// question is one that was asked.
type question struct {
	n     uint64
	since int64
}

// book is what is known of a prober, and does what the chapter's words say, step by step.
type book struct {
	Setting
	now    int64
	next   int64
	isOpen bool
	open   question // if one is
	up     bool
	misses int
	hits   int
	asked  uint64
}

// newBook is that of one that asks first at 0.
func newBook(s Setting) *book { return &book{Setting: s} }

// goOn has the time of a call, with which an open question that was asked long enough ago did not come.
func (b *book) goOn(now int64) {
	isTime := now >= 0 && now <= lastTick
	if isTime && now >= b.now {
		b.now = now
	}
	if b.isOpen && b.now-b.open.since >= b.Wait {
		b.didNotCome()
	}
}

// didNotCome is what is done with an open question that did not come.
func (b *book) didNotCome() {
	b.isOpen = false
	b.hits = 0
	b.misses++
	if b.misses == b.Miss {
		b.up, b.misses = false, 0
	}
}

// tick is Tick.
func (b *book) tick(now int64) (uint64, bool) {
	b.goOn(now)
	if b.next > b.now {
		return 0, false
	}
	if b.isOpen {
		b.didNotCome()
	}
	b.asked++
	b.isOpen, b.open = true, question{b.asked, b.now}
	b.next = b.now + b.Every
	return b.asked, true
}

// pong is Pong.
func (b *book) pong(now int64, n uint64) bool {
	b.goOn(now)
	if !b.isOpen || b.open.n != n {
		return false
	}
	b.isOpen = false
	b.misses = 0
	b.hits++
	if b.hits == b.Hit {
		b.up, b.hits = true, 0
	}
	return true
}

// end is the end of the open question's wait.
func (b *book) end() int64 { return b.open.since + b.Wait }

// due is Due.
func (b *book) due() int64 {
	if b.isOpen && b.end() < b.next {
		return b.end()
	}
	return b.next
}

// call is one with a now: Tick, or Pong of a number that hangs on how many were asked.
type call struct {
	name   string
	number func(asked uint64) uint64 // nil of Tick
}

// tickCall, and those behind it, are the calls with a now.
func tickCall() call { return call{"Tick", nil} }

func pongCall() call {
	return call{"Pong", func(asked uint64) uint64 { return asked }}
}

func pongOf(n uint64) call {
	return call{"Pong of a number", func(uint64) uint64 { return n }}
}

// callsWithNow are all of them, Pong of all kinds of numbers.
func callsWithNow() []call {
	return []call{
		tickCall(), pongCall(), pongOf(0), pongOf(1<<64 - 1),
		{"Pong of an earlier one", func(asked uint64) uint64 { return asked - 1 }},
		{"Pong of a later one", func(asked uint64) uint64 { return asked + 1 }},
	}
}

// answer is what a call answers; of Pong N is 0.
type answer struct {
	n  uint64
	is bool
}

// newProber is a prober that asks first at 0.
func newProber(t *testing.T, s Setting) *Prober {
	t.Helper()
	p, err := New(s)
	if p == nil || err != api.OK {
		t.Fatalf("New(%v) is %v, %v", s, p, err)
	}
	return p
}

// pair is a prober, and its book.
type pair struct {
	prober *Prober
	book   *book
}

// newPair is a prober that asks first at 0, and its book.
func newPair(t *testing.T, s Setting) pair {
	t.Helper()
	p := pair{prober: newProber(t, s), book: newBook(s)}
	p.check(t)
	return p
}

// inProber does a call in a prober; asked is how many were asked.
func (c call) inProber(p *Prober, now int64, asked uint64) answer {
	if c.number == nil {
		n, is := p.Tick(now)
		return answer{n, is}
	}
	return answer{0, p.Pong(now, c.number(asked))}
}

// inBook does a call in a book.
func (c call) inBook(b *book, now int64) answer {
	if c.number == nil {
		n, is := b.tick(now)
		return answer{n, is}
	}
	return answer{0, b.pong(now, c.number(b.asked))}
}

// asks does a call in both, which answer the same; nothing else is asked, as that might do what the call should have done.
func (p pair) asks(t *testing.T, c call, now int64) answer {
	t.Helper()
	ahead := *p.book
	got, want := c.inProber(p.prober, now, ahead.asked), c.inBook(p.book, now)
	if got != want {
		t.Fatalf("%s at %d is %v, want %v, of %+v", c.name, now, got, want, ahead)
	}
	return got
}

// does does a call in both, and tells where they are not the same behind it.
func (p pair) does(t *testing.T, c call, now int64) answer {
	t.Helper()
	ahead := *p.book
	got := p.asks(t, c, now)
	if what := p.differs(); what != "" {
		t.Fatalf("behind %s at %d %s is another one than of %+v, of %+v", c.name, now, what, *p.book, ahead)
	}
	return got
}

// differs is what a prober tells otherwise than its book, or nothing.
func (p pair) differs() string {
	switch {
	case p.prober.Now() != p.book.now:
		return "Now"
	case p.prober.Up() != p.book.up:
		return "Up"
	case p.prober.Due() != p.book.due():
		return "Due"
	case p.prober.Asked() != p.book.asked:
		return "Asked"
	}
	return ""
}

// check tells where a prober tells otherwise than its book.
func (p pair) check(t *testing.T) {
	t.Helper()
	if what := p.differs(); what != "" {
		t.Fatalf("%s is another one than of %+v", what, *p.book)
	}
}

// checkKept tells where a prober keeps otherwise than its book what no call answers: a question that is open, and what is counted; told by what it does then, twice up and down.
func (p pair) checkKept(t *testing.T) {
	t.Helper()
	for range 4 {
		was := p.book.up
		for n := 0; p.book.up == was; n++ {
			if n > 3*(p.book.Miss+p.book.Hit)+3 {
				t.Fatalf("it stays as it is, of %+v", *p.book)
			}
			if !was {
				p.does(t, pongCall(), -1)
			}
			if p.book.due() > lastTick {
				return
			}
			p.does(t, tickCall(), p.book.due())
		}
	}
}

// asked asks a question, at a time that is there, and tells its number.
func (p pair) asked(t *testing.T, now int64) uint64 {
	t.Helper()
	a := p.does(t, tickCall(), now)
	if !a.is {
		t.Fatalf("nothing is asked at %d, of %+v", now, *p.book)
	}
	return a.n
}

// rounds asks one question a letter, each Every behind the one ahead: of h it comes at once, of m it does not; what is open behind the last one stays so.
func (p pair) rounds(t *testing.T, from int64, letters string) {
	t.Helper()
	for n, letter := range letters {
		p.asked(t, from+int64(n)*p.book.Every)
		if letter == 'h' {
			p.does(t, pongCall(), -1)
		}
	}
}

// wantTick tells where Tick answers otherwise; 0 stands for nothing.
func wantTick(t *testing.T, p *Prober, now int64, want uint64) {
	t.Helper()
	if n, is := p.Tick(now); n != want || is != (want > 0) {
		t.Fatalf("Tick(%d) is %d, %v, want %d", now, n, is, want)
	}
}

// wantPong tells where Pong answers otherwise.
func wantPong(t *testing.T, p *Prober, now int64, n uint64, want bool) {
	t.Helper()
	if got := p.Pong(now, n); got != want {
		t.Fatalf("Pong(%d, %d) is %v, want %v", now, n, got, want)
	}
}

// wantUp tells where it is up otherwise.
func wantUp(t *testing.T, p *Prober, want bool) {
	t.Helper()
	if got := p.Up(); got != want {
		t.Fatalf("at %d Up is %v, want %v", p.Now(), got, want)
	}
}

// wantDue tells where something is due at another time.
func wantDue(t *testing.T, p *Prober, want int64) {
	t.Helper()
	if got := p.Due(); got != want {
		t.Fatalf("at %d Due is %d, want %d", p.Now(), got, want)
	}
}

// wantNow tells where the time is another one.
func wantNow(t *testing.T, p *Prober, want int64) {
	t.Helper()
	if got := p.Now(); got != want {
		t.Fatalf("Now is %d, want %d", got, want)
	}
}

// wantAsked tells where another number was asked.
func wantAsked(t *testing.T, p *Prober, want uint64) {
	t.Helper()
	if got := p.Asked(); got != want {
		t.Fatalf("Asked is %d, want %d", got, want)
	}
}

// somewhere is what was done to a prober until a time: the letters of its rounds, and how long ago the last one was asked.
type somewhere struct {
	letters string
	back    int64
}

// everywhere are probers that are down and up, with and without an open question, and with all that may be counted; at 0 those alone that come to it.
func everywhere(at int64) []somewhere {
	all := []somewhere{{"", 0}, {"m", 0}, {"h", 0}}
	if at == 0 {
		return all
	}
	for _, letters := range []string{"m", "h", "hh", "hhm", "mh", "mm", "mmm", "mmmm", "hhh", "hhhh", "hhhm", "hhhmm", "hhhmmh", "hhhmmm", "hhhmmmh", "hhhmhhm"} {
		for _, back := range []int64{0, 1, 5, 6, 7, 9, 10, 25} {
			all = append(all, somewhere{letters, back})
		}
	}
	return all
}

// pair is a prober to which that was done, at a time that is 0, or from 100 on; with Every 10, Wait 6, Miss 3 and Hit 3.
func (s somewhere) pair(t *testing.T, at int64) pair {
	t.Helper()
	p := newPair(t, Setting{Every: 10, Wait: 6, Miss: 3, Hit: 3})
	p.rounds(t, at-s.back-10*max(int64(len(s.letters))-1, 0), s.letters)
	p.does(t, pongOf(0), at)
	wantNow(t, p.prober, at)
	return p
}
