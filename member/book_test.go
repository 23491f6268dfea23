package member

import (
	"slices"
	"testing"

	"garboard/api"
)

// The bounds, as the chapter tells them.
const (
	room      = 8
	lastTick  = 1 << 40
	lastGiven = 9223372036854775807
	mostOfOne = 1048576
)

// The greatest numbers of their types, and the least ones.
const (
	greatestNumber = 1<<64 - 1
	greatestInt    = 1<<63 - 1
	leastInt       = -1 << 63
)

// book are the replicas of a list, and does what the chapter's words say: a plain list that rises by numbers, as they are added.
type book struct {
	now   int64
	last  uint64
	lines []Replica
}

// goOn has the time of a call.
func (b *book) goOn(now int64) {
	isTime := now >= 0 && now <= lastTick
	if isTime && now >= b.now {
		b.now = now
	}
}

// line is that of a number, or nil.
func (b *book) line(n uint64) *Replica {
	for place := range b.lines {
		if b.lines[place].N == n {
			return &b.lines[place]
		}
	}
	return nil
}

// add is Add.
func (b *book) add(now int64) (uint64, api.Errno) {
	b.goOn(now)
	if len(b.lines) == room || b.last == lastGiven {
		return 0, api.ErrMany
	}
	b.last++
	b.lines = append(b.lines, Replica{N: b.last, State: Starting, Inc: 0, Bound: 0, Since: b.now})
	return b.last, api.OK
}

// up is Up.
func (b *book) up(now int64, n, inc uint64) (bool, api.Errno) {
	b.goOn(now)
	line := b.line(n)
	switch {
	case line == nil:
		return false, api.ErrNone
	case inc == 0, inc < line.Inc:
		return false, api.ErrArg
	}
	switch line.State {
	case Starting, Down:
		line.State, line.Since = Ready, b.now
	}
	isKnown, known := line.Inc > 0, line.Inc
	line.Inc = inc
	if !isKnown || known == inc {
		return false, api.OK
	}
	line.Bound = 0
	return true, api.OK
}

// lost is Lost.
func (b *book) lost(now int64, n uint64) api.Errno {
	b.goOn(now)
	line := b.line(n)
	switch {
	case line == nil:
		return api.ErrNone
	case line.State == Draining:
		return api.ErrState
	case line.State == Starting, line.State == Ready:
		line.State, line.Since = Down, b.now
	}
	return api.OK
}

// drain is Drain.
func (b *book) drain(now int64, n uint64) api.Errno {
	b.goOn(now)
	line := b.line(n)
	switch {
	case line == nil:
		return api.ErrNone
	case line.State == Draining:
		return api.ErrState
	}
	line.State, line.Since = Draining, b.now
	return api.OK
}

// remove is Remove.
func (b *book) remove(now int64, n uint64, wait int64) api.Errno {
	b.goOn(now)
	line := b.line(n)
	if line == nil {
		return api.ErrNone
	}
	drained := b.now - line.Since
	if line.State != Draining || line.Bound != 0 && drained < wait {
		return api.ErrState
	}
	b.lines = slices.DeleteFunc(b.lines, func(r Replica) bool { return r.N == n })
	return api.OK
}

// bind is Bind.
func (b *book) bind(n uint64, by int) api.Errno {
	line := b.line(n)
	if line == nil {
		return api.ErrNone
	}
	if by < -mostOfOne || by > mostOfOne {
		return api.ErrArg
	}
	if sum := line.Bound + by; sum < 0 || sum > mostOfOne {
		return api.ErrArg
	}
	line.Bound += by
	return api.OK
}

// get is Get.
func (b *book) get(n uint64) (Replica, api.Errno) {
	if line := b.line(n); line != nil {
		return *line, api.OK
	}
	return Replica{}, api.ErrNone
}

// live is Live.
func (b *book) live() int {
	live := 0
	for _, r := range b.lines {
		switch r.State {
		case Starting, Ready, Down:
			live++
		}
	}
	return live
}

// call is one of a list; of what it has none of, there is 0.
type call struct {
	name string
	n    uint64
	inc  uint64
	wait int64
	by   int
}

// addCall, and those behind it, are calls of a list.
func addCall() call { return call{name: "Add"} }

func upCall(n, inc uint64) call { return call{name: "Up", n: n, inc: inc} }

func lostCall(n uint64) call { return call{name: "Lost", n: n} }

func drainCall(n uint64) call { return call{name: "Drain", n: n} }

func removeCall(n uint64, wait int64) call { return call{name: "Remove", n: n, wait: wait} }

func bindCall(n uint64, by int) call { return call{name: "Bind", n: n, by: by} }

// callsOf are calls of all kinds of one number; Bind alone has no now.
func callsOf(n uint64) []call {
	return []call{upCall(n, 7), upCall(n, 0), upCall(n, greatestNumber), lostCall(n), drainCall(n), removeCall(n, 0), removeCall(n, 5), removeCall(n, greatestInt), bindCall(n, 1), bindCall(n, -1), bindCall(n, leastInt)}
}

// answer is what a call answers.
type answer struct {
	n    uint64 // of Add
	anew bool   // of Up
	err  api.Errno
}

// inList does a call in a list.
func (c call) inList(l *List, now int64) answer {
	var a answer
	switch c.name {
	case "Add":
		a.n, a.err = l.Add(now)
	case "Up":
		a.anew, a.err = l.Up(now, c.n, c.inc)
	case "Lost":
		a.err = l.Lost(now, c.n)
	case "Drain":
		a.err = l.Drain(now, c.n)
	case "Remove":
		a.err = l.Remove(now, c.n, c.wait)
	case "Bind":
		a.err = l.Bind(c.n, c.by)
	}
	return a
}

// inBook does a call in a book.
func (c call) inBook(b *book, now int64) answer {
	var a answer
	switch c.name {
	case "Add":
		a.n, a.err = b.add(now)
	case "Up":
		a.anew, a.err = b.up(now, c.n, c.inc)
	case "Lost":
		a.err = b.lost(now, c.n)
	case "Drain":
		a.err = b.drain(now, c.n)
	case "Remove":
		a.err = b.remove(now, c.n, c.wait)
	case "Bind":
		a.err = b.bind(c.n, c.by)
	}
	return a
}

// newList is an empty list.
func newList(t *testing.T) *List {
	t.Helper()
	l := New()
	if l == nil {
		t.Fatal("New gives none")
	}
	return l
}

// pair is a list, and its book.
type pair struct {
	list *List
	book *book
}

// newPair is an empty list, and its book.
func newPair(t *testing.T) pair {
	t.Helper()
	p := pair{list: newList(t), book: &book{}}
	p.check(t)
	return p
}

// asks does a call in both, which answer the same; nothing else is asked.
func (p pair) asks(t *testing.T, c call, now int64) answer {
	t.Helper()
	ahead, lines := *p.book, slices.Clone(p.book.lines)
	got, want := c.inList(p.list, now), c.inBook(p.book, now)
	if got != want {
		t.Fatalf("%+v at %d is %v, want %v, at %d of %+v", c, now, got, want, ahead.now, lines)
	}
	return got
}

// does does a call in both, and tells where they are not the same behind it.
func (p pair) does(t *testing.T, c call, now int64) answer {
	t.Helper()
	lines := slices.Clone(p.book.lines)
	got := p.asks(t, c, now)
	if what := p.differs(); what != "" {
		t.Fatalf("behind %+v at %d %s is another one: %+v at %d, want %+v at %d, of %+v", c, now, what, p.list.All(), p.list.Now(), p.book.lines, p.book.now, lines)
	}
	return got
}

// must does a call in both, that is not refused.
func (p pair) must(t *testing.T, c call, now int64) answer {
	t.Helper()
	a := p.does(t, c, now)
	if a.err != api.OK {
		t.Fatalf("%+v at %d is refused: %v, of %+v", c, now, a.err, p.book.lines)
	}
	return a
}

// refused does a call in both, that is refused with an error.
func (p pair) refused(t *testing.T, c call, now int64, want api.Errno) {
	t.Helper()
	if a := p.does(t, c, now); a != (answer{err: want}) {
		t.Fatalf("%+v at %d is %+v, want %v, of %+v", c, now, a, want, p.book.lines)
	}
}

// differs is what a list tells otherwise than its book, or nothing.
func (p pair) differs() string {
	switch {
	case p.list.Now() != p.book.now:
		return "Now"
	case p.list.Live() != p.book.live():
		return "Live"
	case !slices.Equal(p.list.All(), p.book.lines):
		return "All"
	}
	for _, n := range p.numbers() {
		got, err := p.list.Get(n)
		want, wantErr := p.book.get(n)
		if got != want || err != wantErr {
			return "Get"
		}
	}
	return ""
}

// numbers are those that were given, of many the last ones and those that are there, and some that were not.
func (p pair) numbers() []uint64 {
	all := []uint64{0, p.book.last + 1, p.book.last + 2, 1 << 32, 1 << 63, greatestNumber}
	for n := p.book.last; n > 0 && p.book.last-n < 20; n-- {
		all = append(all, n)
	}
	for _, r := range p.book.lines {
		all = append(all, r.N)
	}
	return all
}

// check tells where a list tells otherwise than its book.
func (p pair) check(t *testing.T) {
	t.Helper()
	if what := p.differs(); what != "" {
		t.Fatalf("%s is another one: %+v at %d, want %+v at %d", what, p.list.All(), p.list.Now(), p.book.lines, p.book.now)
	}
}

// checkLast tells where another number was given last than in the book: the next one tells it, and all go for it if there is no room.
func (p pair) checkLast(t *testing.T) {
	t.Helper()
	if len(p.book.lines) == room {
		n := p.book.lines[0].N
		p.does(t, drainCall(n), -1)
		p.must(t, bindCall(n, -p.book.line(n).Bound), -1)
		p.must(t, removeCall(n, 0), -1)
	}
	p.does(t, addCall(), -1)
}

// add adds a replica: its number.
func (p pair) add(t *testing.T, now int64) uint64 {
	t.Helper()
	return p.must(t, addCall(), now).n
}

// adds adds so many replicas.
func (p pair) adds(t *testing.T, many int) {
	t.Helper()
	for range many {
		p.add(t, -1)
	}
}

// kind is what a replica is: its state, its incarnation and what is bound to it.
type kind struct {
	state int
	inc   uint64
	bound int
}

// kinds are all kinds that a replica may be of: one that is Starting has no incarnation that is known, one that is Ready has one.
func kinds(bounds ...int) []kind {
	var all []kind
	for _, bound := range bounds {
		all = append(all, kind{Starting, 0, bound}, kind{Draining, 0, bound}, kind{Down, 0, bound})
		for _, inc := range []uint64{1, 2, 5, 1<<63 - 1, 1 << 63, greatestNumber - 1, greatestNumber} {
			all = append(all, kind{Ready, inc, bound}, kind{Draining, inc, bound}, kind{Down, inc, bound})
		}
	}
	return all
}

// adds adds a replica of that kind, that is in its state since a time: its number.
func (k kind) adds(t *testing.T, p pair, since int64) uint64 {
	t.Helper()
	n := p.add(t, since)
	if k.inc > 0 {
		p.must(t, upCall(n, k.inc), since)
	}
	switch k.state {
	case Draining:
		p.must(t, drainCall(n), since)
	case Down:
		p.must(t, lostCall(n), since)
	}
	p.must(t, bindCall(n, k.bound), since)
	wantReplica(t, p.list, Replica{N: n, State: k.state, Inc: k.inc, Bound: k.bound, Since: since})
	return n
}

// pair is a list of three replicas, of which the one in the middle is of that kind, at a time: its number too.
func (k kind) pair(t *testing.T, at int64) (pair, uint64) {
	t.Helper()
	p := newPair(t)
	p.must(t, bindCall(p.add(t, at), 3), at)
	n := k.adds(t, p, at)
	p.must(t, bindCall(p.add(t, at), 4), at)
	return p, n
}

// wantReplica tells where a replica is another one than is wanted.
func wantReplica(t *testing.T, l *List, want Replica) {
	t.Helper()
	if got, err := l.Get(want.N); got != want || err != api.OK {
		t.Fatalf("at %d Get(%d) is %+v, %v, want %+v", l.Now(), want.N, got, err, want)
	}
}

// wantNone tells where there is a replica of a number.
func wantNone(t *testing.T, l *List, n uint64) {
	t.Helper()
	if got, err := l.Get(n); got != (Replica{}) || err != api.ErrNone {
		t.Fatalf("at %d Get(%d) is %+v, %v, want none", l.Now(), n, got, err)
	}
}

// wantAll tells where other replicas are there than those of these numbers.
func wantAll(t *testing.T, l *List, want ...uint64) {
	t.Helper()
	var got []uint64
	for _, r := range l.All() {
		got = append(got, r.N)
	}
	if !slices.Equal(got, want) {
		t.Fatalf("there are %v, want %v", got, want)
	}
}

// wantLive tells where another number is not Draining.
func wantLive(t *testing.T, l *List, want int) {
	t.Helper()
	if got := l.Live(); got != want {
		t.Fatalf("Live is %d, want %d, of %+v", got, want, l.All())
	}
}

// wantNow tells where the time is another one.
func wantNow(t *testing.T, l *List, want int64) {
	t.Helper()
	if got := l.Now(); got != want {
		t.Fatalf("Now is %d, want %d", got, want)
	}
}
