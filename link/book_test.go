package link

import (
	"slices"
	"strconv"
	"testing"

	"garboard/api"
	"garboard/sat"
)

// The bounds, as the chapter tells them.
const (
	mostRoom  = 256
	lastCount = 1<<32 - 1
)

// book are the messages of a link that are under way, and its counters, and does what the chapter's words say: a plain list of texts, into which nobody writes.
type book struct {
	room   int
	lines  []string
	counts Counts
}

// count counts a counter on, up to the last number.
func count(counter *uint32, by int) {
	for range by {
		if *counter < lastCount {
			*counter++
		}
	}
}

// there tells whether there is a place.
func (b *book) there(i int) bool {
	for place := range b.lines {
		if place == i {
			return true
		}
	}
	return false
}

// takeOut is the message at a place, which is not under way any more.
func (b *book) takeOut(i int) string {
	var left []string
	for place, line := range b.lines {
		if place != i {
			left = append(left, line)
		}
	}
	out := b.lines[i]
	b.lines = left
	return out
}

// send is Send.
func (b *book) send(m string) api.Errno {
	count(&b.counts.Sent, 1)
	if len(b.lines) == b.room {
		count(&b.counts.Dropped, 1)
		return api.ErrFull
	}
	b.lines = append(b.lines, m)
	return api.OK
}

// deliver is Deliver.
func (b *book) deliver(i int) (string, api.Errno) {
	if !b.there(i) {
		return "", api.ErrNone
	}
	count(&b.counts.Came, 1)
	return b.takeOut(i), api.OK
}

// drop is Drop.
func (b *book) drop(i int) api.Errno {
	if !b.there(i) {
		return api.ErrNone
	}
	count(&b.counts.Dropped, 1)
	b.takeOut(i)
	return api.OK
}

// twice is Twice.
func (b *book) twice(i int) api.Errno {
	switch {
	case !b.there(i):
		return api.ErrNone
	case len(b.lines) == b.room:
		return api.ErrFull
	}
	b.lines = append(b.lines, b.lines[i])
	return api.OK
}

// later is Later.
func (b *book) later(i int) api.Errno {
	if !b.there(i) {
		return api.ErrNone
	}
	b.lines = append(b.lines, b.takeOut(i))
	return api.OK
}

// turn is Turn.
func (b *book) turn(i, at int, mask uint32) api.Errno {
	if !b.there(i) {
		return api.ErrNone
	}
	count(&b.counts.Turned, 1)
	b.lines[i] = burst(b.lines[i], at, mask)
	return api.OK
}

// clear is Clear.
func (b *book) clear() int {
	dropped := len(b.lines)
	count(&b.counts.Dropped, dropped)
	b.lines = nil
	return dropped
}

// burst is layer 3's, by the message's bits one by one.
func burst(m string, at int, mask uint32) string {
	out := []byte(m)
	for n := range out {
		for k := range 8 {
			place := 8*n + k
			// Only so near is the difference sure to be a number.
			if at > place-32 && at <= place && mask>>(place-at)&1 == 1 {
				out[n] ^= 1 << k
			}
		}
	}
	return string(out)
}

// pair is a link, and its book.
type pair struct {
	link *Link
	book *book
}

// newPair is an empty link, and its book.
func newPair(t *testing.T, room int) pair {
	t.Helper()
	l, err := New(room)
	if l == nil || err != api.OK {
		t.Fatalf("New(%d) is %v, %v", room, l, err)
	}
	p := pair{link: l, book: &book{room: room}}
	p.check(t)
	return p
}

// filled is a link with these messages under way, and its book.
func filled(t *testing.T, room int, messages ...string) pair {
	t.Helper()
	p := newPair(t, room)
	for _, m := range messages {
		p.mustSend(t, m)
	}
	return p
}

// send sends one in both, which answer the same.
func (p pair) send(t *testing.T, m string) api.Errno {
	t.Helper()
	got, want := p.link.Send([]byte(m)), p.book.send(m)
	if got != want {
		t.Fatalf("Send(%s) is %v, want %v", short(m), got, want)
	}
	p.check(t)
	return got
}

// mustSend sends one in both, for which there is room.
func (p pair) mustSend(t *testing.T, m string) {
	t.Helper()
	if err := p.send(t, m); err != api.OK {
		t.Fatalf("Send(%s): %v", short(m), err)
	}
}

// deliver lets one come in both, which answer the same.
func (p pair) deliver(t *testing.T, i int) (string, api.Errno) {
	t.Helper()
	got, err := p.link.Deliver(i)
	want, wantErr := p.book.deliver(i)
	if string(got) != want || err != wantErr {
		t.Fatalf("Deliver(%d) is %s, %v, want %s, %v", i, short(string(got)), err, short(want), wantErr)
	}
	p.check(t)
	return want, err
}

// does does a call with a place in both, which answer the same.
func (p pair) does(t *testing.T, c call, i int) api.Errno {
	t.Helper()
	got, want := c.link(p.link, i), c.book(p.book, i)
	if got != want {
		t.Fatalf("%s(%d) is %v, want %v", c.name, i, got, want)
	}
	p.check(t)
	return got
}

// turn turns one in both, which answer the same.
func (p pair) turn(t *testing.T, i, at int, mask uint32) api.Errno {
	t.Helper()
	return p.does(t, turnBy(at, mask), i)
}

// clear drops all in both, which answer the same.
func (p pair) clear(t *testing.T) int {
	t.Helper()
	got, want := p.link.Clear(), p.book.clear()
	if got != want {
		t.Fatalf("Clear is %d, want %d", got, want)
	}
	p.check(t)
	return got
}

// check tells where a link tells otherwise than its book.
func (p pair) check(t *testing.T) {
	t.Helper()
	if got := p.link.Len(); got != len(p.book.lines) || got > p.book.room {
		t.Fatalf("Len is %d, want %d", got, len(p.book.lines))
	}
	if got := p.link.Counts(); got != p.book.counts {
		t.Fatalf("Counts are %v, want %v", got, p.book.counts)
	}
}

// checkKept tells where a link has other messages under way than its book, or keeps others beside them.
func (p pair) checkKept(t *testing.T) {
	t.Helper()
	var all []string
	for _, b := range p.link.under {
		all = append(all, string(b))
	}
	if !slices.Equal(all, p.book.lines) {
		t.Fatalf("under way are\n%q, want\n%q", all, p.book.lines)
	}
	for _, b := range p.link.under[len(p.link.under):cap(p.link.under)] {
		if b != nil {
			t.Fatalf("%q is kept behind those that are under way", b)
		}
	}
}

// lay lays numbers into the counters of both, as no test can call so often; the link's own counters are counted there, so that they end where it lets them.
func (p pair) lay(t *testing.T, c Counts) {
	t.Helper()
	at := func(own sat.Counter, n uint32) sat.Counter { return own.Down(lastCount).Up(n) }
	l := p.link
	l.sent, l.came, l.dropped, l.turned = at(l.sent, c.Sent), at(l.came, c.Came), at(l.dropped, c.Dropped), at(l.turned, c.Turned)
	p.book.counts = c
	p.check(t)
}

// wantAll tells where others come than these, the first one first, or where one is left.
func (p pair) wantAll(t *testing.T, want ...string) {
	t.Helper()
	p.checkKept(t)
	for n, m := range want {
		if got, err := p.deliver(t, 0); got != m || err != api.OK {
			t.Fatalf("of %d the message %d is %s, %v, want %s", len(want), n, short(got), err, short(m))
		}
	}
	if got, err := p.deliver(t, 0); got != "" || err != api.ErrNone || p.link.Len() != 0 {
		t.Fatalf("behind them there is %s, %v", short(got), err)
	}
}

// wantCounts tells where the counters are others.
func (p pair) wantCounts(t *testing.T, want Counts) {
	t.Helper()
	if got := p.link.Counts(); got != want {
		t.Fatalf("Counts are %v, want %v", got, want)
	}
}

// short is a message as a failure tells of it.
func short(m string) string {
	if len(m) > 20 {
		return strconv.Quote(m[:20]) + ".."
	}
	return strconv.Quote(m)
}

// call is one that asks for a place, in a link and in its book.
type call struct {
	name string
	link func(*Link, int) api.Errno
	book func(*book, int) api.Errno
}

// deliverCall, and those behind it, are the calls that ask for a place.
func deliverCall() call {
	return call{"Deliver", func(l *Link, i int) api.Errno { _, err := l.Deliver(i); return err }, func(b *book, i int) api.Errno { _, err := b.deliver(i); return err }}
}

func dropCall() call  { return call{"Drop", (*Link).Drop, (*book).drop} }
func twiceCall() call { return call{"Twice", (*Link).Twice, (*book).twice} }
func laterCall() call { return call{"Later", (*Link).Later, (*book).later} }

func turnBy(at int, mask uint32) call {
	return call{"Turn", func(l *Link, i int) api.Errno { return l.Turn(i, at, mask) }, func(b *book, i int) api.Errno { return b.turn(i, at, mask) }}
}

// placeCalls are all of them.
func placeCalls() []call {
	return []call{deliverCall(), dropCall(), twiceCall(), laterCall(), turnBy(3, 5)}
}
