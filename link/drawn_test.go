package link

import (
	"math"
	"slices"
	"strconv"
	"strings"
	"testing"

	"garboard/api"
	"garboard/crc"
	"garboard/rand"
)

// setting is how many messages a link has room for, how often of a hundred calls one is sent, how long a message is at most, and how many calls there are.
type setting struct {
	room  int
	sends int
	bytes int
	calls int
}

// someSettings are links of several rooms, that are nearly empty, partly filled and nearly full.
func someSettings() []setting {
	return []setting{
		{1, 40, 3, 300}, {1, 70, 10, 300}, {2, 40, 3, 500}, {2, 60, 1, 500}, {3, 50, 6, 600}, {4, 30, 4, 600}, {5, 80, 9, 600},
		{8, 45, 2, 800}, {16, 50, 40, 800}, {17, 90, 5, 600}, {40, 48, 5, 1000}, {100, 70, 8, 1200}, {255, 80, 5, 1500}, {256, 45, 300, 1000}, {256, 90, 5, 1500},
	}
}

// draws are what a test's calls are made of.
type draws struct {
	*rand.Source
	setting
}

// newDraws are draws that hang on a label and a setting's number.
func newDraws(label, n int, s setting) draws {
	return draws{Source: rand.New(rand.Derive(21, uint64(label), uint64(n))), setting: s}
}

// below is a number below another one.
func (d draws) below(n int) int { return int(d.Next() % uint64(n)) }

// message is bytes, often few and of few kinds, so that several are like ones, seldom as many as a frame's load may have.
func (d draws) message() string {
	size, kinds := d.below(d.bytes+1), 256
	switch d.below(60) {
	case 0:
		size = api.MaxPayload
	case 1, 2, 3, 4, 5, 6, 7, 8, 9, 10:
		kinds = 2
	}
	out := make([]byte, size)
	for i := range out {
		out[i] = byte(d.below(kinds))
	}
	return string(out)
}

// place is mostly one that is there, if there are any, else one beside them or far off.
func (d draws) place(under int) int {
	switch d.below(14) {
	case 0:
		return []int{-1, under, under + 1, -under, d.room}[d.below(5)]
	case 1:
		return []int{math.MinInt, math.MinInt + d.below(40), -1 << 32, 1 << 32, 1<<32 + d.below(9), math.MaxInt - d.below(40), math.MaxInt}[d.below(7)]
	case 2, 3:
		return 0
	case 4:
		return under - 1
	}
	return d.below(max(under, 1))
}

// burst is where one begins, and its mask: mostly in a message or beside it, seldom far off, seldom of no bit.
func (d draws) burst() (int, uint32) {
	at, mask := d.below(8*d.bytes+80)-40, uint32(d.Next())
	switch d.below(12) {
	case 0:
		at = []int{math.MinInt, math.MinInt + d.below(40), -1 << 32, 1 << 32, math.MaxInt - d.below(40), math.MaxInt}[d.below(6)]
	case 1:
		mask = 0
	case 2, 3:
		mask = 1 << d.below(32)
	case 4:
		mask = math.MaxUint32
	}
	return at, mask
}

// The calls that turn a link.
const (
	send = iota
	deliver
	drop
	twice
	later
	turn
	clearAll
)

// call is which one is drawn.
func (d draws) call() int {
	if d.below(100) < d.sends {
		return send
	}
	if d.below(80) == 0 {
		return clearAll
	}
	return []int{deliver, deliver, deliver, drop, twice, twice, later, turn}[d.below(8)]
}

// step is a drawn call: which one.
func (d draws) step(t *testing.T, p pair) int {
	t.Helper()
	i, what := d.place(p.link.Len()), d.call()
	switch what {
	case send:
		p.send(t, d.message())
	case deliver:
		p.deliver(t, i)
	case drop:
		p.does(t, dropCall(), i)
	case twice:
		p.does(t, twiceCall(), i)
	case later:
		p.does(t, laterCall(), i)
	case turn:
		at, mask := d.burst()
		p.turn(t, i, at, mask)
	case clearAll:
		p.clear(t)
	}
	return what
}

// TestDrawnCalls (P21.1 to P21.4): calls in drawn orders answer as the chapter's words say, and leave behind what they say.
func TestDrawnCalls(t *testing.T) {
	for n, s := range someSettings() {
		for round := range 4 {
			p, d := newPair(t, s.room), newDraws(round, n, s)
			for range s.calls {
				d.step(t, p)
				p.checkKept(t)
			}
			p.wantAll(t, slices.Clone(p.book.lines)...)
		}
	}
}

// TestDrawnCallsComeAnew (P21.2): what is under way behind drawn calls is told by Deliver, from behind, and from drawn places, too.
func TestDrawnCallsComeAnew(t *testing.T) {
	for n, s := range someSettings() {
		for end := 0; end < s.calls; end += 37 {
			p, d := newPair(t, s.room), newDraws(4, n, s)
			for range end {
				d.step(t, p)
			}
			for p.link.Len() > 0 {
				i := p.link.Len() - 1
				if end%2 == 0 {
					i = d.below(p.link.Len())
				}
				p.deliver(t, i)
			}
			p.wantAll(t)
		}
	}
}

// TestDrawnFull (P21.1, P21.2): so do calls of a link that is full, or nearly so.
func TestDrawnFull(t *testing.T) {
	for _, room := range []int{1, 2, 3, 64, 255, 256} {
		d := newDraws(5, room, setting{room: room, sends: 60, bytes: 6})
		p, refused := newPair(t, room), 0
		for range 1500 {
			for p.link.Len() < room-1 {
				p.mustSend(t, d.message())
			}
			ahead := p.book.counts.Dropped
			if d.step(t, p) == send && p.book.counts.Dropped > ahead {
				refused++
			}
			p.checkKept(t)
		}
		if refused < 100 {
			t.Errorf("room %d: only %d were refused", room, refused)
		}
	}
}

// TestDrawnLastCounts (P21.2): so do calls of a link whose counters come to their end, each at another time.
func TestDrawnLastCounts(t *testing.T) {
	for n, s := range someSettings() {
		p, d := newPair(t, s.room), newDraws(6, n, s)
		from := func() uint32 { return lastCount - uint32(d.below(s.calls/10)) }
		p.lay(t, Counts{from(), from(), from(), from()})
		for range s.calls {
			d.step(t, p)
		}
		p.checkKept(t)
		for p.book.counts != (Counts{lastCount, lastCount, lastCount, lastCount}) {
			d.step(t, p)
		}
		for range s.calls / 4 {
			d.step(t, p)
		}
		p.wantCounts(t, Counts{lastCount, lastCount, lastCount, lastCount})
	}
}

// flow is a link and what its answers tell of it.
type flow struct {
	draws
	link  *Link
	sent  []string // those that were taken, none like another
	under int      // how many are under way, by the answers
}

// newFlow is an empty link, and draws.
func newFlow(t *testing.T, label, n int, s setting) *flow {
	t.Helper()
	l, err := New(s.room)
	if err != api.OK {
		t.Fatalf("New(%d): %v", s.room, err)
	}
	return &flow{draws: newDraws(label, n, s), link: l}
}

// send sends one that is like none.
func (f *flow) send(t *testing.T) {
	t.Helper()
	m := strconv.Itoa(len(f.sent)) + "." + strings.Repeat("x", f.below(9))
	switch err := f.link.Send([]byte(m)); {
	case err == api.OK && f.under < f.room:
		f.sent = append(f.sent, m)
		f.under++
	case err != api.ErrFull || f.under < f.room:
		t.Fatalf("Send with %d of %d under way is %v", f.under, f.room, err)
	}
}

// answers tells where a call with a place answers otherwise than by how many are under way.
func (f *flow) answers(t *testing.T, what, i int, err api.Errno) {
	t.Helper()
	want := api.OK
	switch {
	case i < 0, i >= f.under:
		want = api.ErrNone
	case what == twice && f.under == f.room:
		want = api.ErrFull
	}
	if err != want {
		t.Fatalf("the call %d of the place %d with %d of %d under way is %v, want %v", what, i, f.under, f.room, err, want)
	}
	if err == api.OK && (what == deliver || what == drop) {
		f.under--
	}
	if err == api.OK && what == twice {
		f.under++
	}
}

// step is a drawn call, but none of those without: what came, and whether something did.
func (f *flow) step(t *testing.T, without ...int) (string, bool) {
	t.Helper()
	what, i := f.call(), f.place(f.under)
	if slices.Contains(without, what) {
		return "", false
	}
	var b []byte
	var err api.Errno
	switch what {
	case send:
		f.send(t)
		return "", false
	case clearAll:
		if got := f.link.Clear(); got != f.under {
			t.Fatalf("Clear is %d, want %d", got, f.under)
		}
		f.under = 0
		return "", false
	case deliver:
		b, err = f.link.Deliver(i)
	case drop:
		err = f.link.Drop(i)
	case twice:
		err = f.link.Twice(i)
	case later:
		err = f.link.Later(i)
	case turn:
		at, mask := f.burst()
		err = f.link.Turn(i, at, mask)
	}
	f.answers(t, what, i, err)
	return string(b), what == deliver && err == api.OK
}

// rest lets all come that is under way.
func (f *flow) rest(t *testing.T) []string {
	t.Helper()
	var all []string
	for f.under > 0 {
		b, err := f.link.Deliver(0)
		f.answers(t, deliver, 0, err)
		all = append(all, string(b))
	}
	if _, err := f.link.Deliver(0); err != api.ErrNone {
		t.Fatalf("behind all there is another one: %v", err)
	}
	return all
}

// TestComesAsSent (P21.3): what comes was sent, as it was, with none turned, whatever is dropped, doubled and put later; told by the calls alone.
func TestComesAsSent(t *testing.T) {
	for n, s := range someSettings() {
		f := newFlow(t, 10, n, s)
		var came []string
		for range s.calls {
			if m, ok := f.step(t, turn); ok {
				came = append(came, m)
			}
		}
		for _, m := range append(came, f.rest(t)...) {
			if !slices.Contains(f.sent, m) {
				t.Fatalf("%q came, which was not sent", m)
			}
		}
	}
}

// TestComesOnce (P21.3): with none doubled each comes once at most, and with none dropped either all come; told by the calls alone.
func TestComesOnce(t *testing.T) {
	for n, s := range someSettings() {
		for _, without := range [][]int{{turn, twice}, {turn, twice, drop, clearAll}} {
			f := newFlow(t, 11, n, s)
			var came []string
			for range s.calls {
				if m, ok := f.step(t, without...); ok {
					came = append(came, m)
				}
			}
			came = append(came, f.rest(t)...)
			slices.Sort(came)
			slices.Sort(f.sent)
			for i := 1; i < len(came); i++ {
				if came[i] == came[i-1] {
					t.Fatalf("%q came twice", came[i])
				}
			}
			if slices.Contains(without, drop) && !slices.Equal(came, f.sent) {
				t.Fatalf("%d of %d came", len(came), len(f.sent))
			}
		}
	}
}

// TestTurnedBack (P21.3): what was turned by a burst, and by it once more, comes as it was sent.
func TestTurnedBack(t *testing.T) {
	for n, s := range someSettings() {
		f := newFlow(t, 12, n, s)
		for range s.calls {
			at, mask := f.burst()
			i := f.place(f.under)
			for range 2 {
				f.answers(t, turn, i, f.link.Turn(i, at, mask))
			}
			if m, ok := f.step(t, turn); ok && !slices.Contains(f.sent, m) {
				t.Fatalf("%q came, which was not sent", m)
			}
		}
		for _, m := range f.rest(t) {
			if !slices.Contains(f.sent, m) {
				t.Fatalf("%q came, which was not sent", m)
			}
		}
	}
}

// TestTurnedIsNotOpened (P21.2, P21.3): a sealed message that one burst turned on its way is opened just if no bit of it was turned, and then as it was sent.
func TestTurnedIsNotOpened(t *testing.T) {
	opened, refused := 0, 0
	for n, s := range someSettings() {
		d := newDraws(13, n, s)
		for range 200 {
			l, _ := New(s.room)
			m := d.message()
			l.Send(crc.Seal([]byte(m)))
			at, mask := d.burst()
			if err := l.Turn(0, at, mask); err != api.OK {
				t.Fatalf("Turn: %v", err)
			}
			b, _ := l.Deliver(0)
			got, err := crc.Open(b)
			if string(b) == string(crc.Seal([]byte(m))) != (err == api.OK) || err == api.OK && string(got) != m {
				t.Fatalf("%q, turned at %d by %X, is opened: %q, %v", m, at, mask, got, err)
			}
			if err == api.OK {
				opened++
			} else {
				refused++
			}
		}
	}
	if opened < 100 || refused < 100 {
		t.Errorf("%d were opened, %d not", opened, refused)
	}
}

// TestNeverMoreThanRoom (P21.4): as many are under way as were taken and doubled, but for those that came and were dropped, and never more than room; told by the calls alone.
func TestNeverMoreThanRoom(t *testing.T) {
	full := 0
	for n, s := range someSettings() {
		f := newFlow(t, 14, n, s)
		for range s.calls {
			f.step(t)
			if got := f.link.Len(); got != f.under || got < 0 || got > s.room {
				t.Fatalf("room %d: Len is %d, want %d", s.room, got, f.under)
			}
			if f.under == s.room {
				full++
			}
		}
		if got := len(f.rest(t)); got > s.room {
			t.Fatalf("room %d: %d were under way", s.room, got)
		}
	}
	if full < 1000 {
		t.Errorf("a link was full only %d times", full)
	}
}

// TestAllComesInOrder (P21.5): with nothing dropped, doubled, put later or turned all comes in the order in which it was sent, though calls of places that are not there stand in between; told by the calls alone.
func TestAllComesInOrder(t *testing.T) {
	for n, s := range someSettings() {
		f := newFlow(t, 15, n, s)
		var came []string
		for range 2 * s.calls {
			switch f.below(5) {
			case 0, 1:
				if f.under < s.room {
					f.send(t)
				}
			case 2, 3:
				b, err := f.link.Deliver(0)
				f.answers(t, deliver, 0, err)
				if err == api.OK {
					came = append(came, string(b))
				}
			case 4:
				for _, i := range []int{-1, f.under, math.MinInt, math.MaxInt} {
					for _, c := range placeCalls() {
						if err := c.link(f.link, i); err != api.ErrNone {
							t.Fatalf("%s(%d) is %v", c.name, i, err)
						}
					}
				}
			}
		}
		came = append(came, f.rest(t)...)
		if !slices.Equal(came, f.sent) {
			t.Fatalf("room %d: what came is %q, what was sent %q", s.room, came, f.sent)
		}
		if got := int(f.link.Counts().Came); got != len(came) || f.link.Counts().Dropped != 0 {
			t.Fatalf("room %d: of %d: %v", s.room, len(came), f.link.Counts())
		}
	}
}

// TestPlacesInOrder (P21.5): so is what stands at each place: the first of those that were sent, and did not come yet, at the first; told by the calls alone.
func TestPlacesInOrder(t *testing.T) {
	for n, s := range someSettings() {
		f := newFlow(t, 16, n, s)
		left, seen := []string(nil), 0
		for range s.calls {
			if f.below(2) == 0 && f.under < s.room {
				f.send(t)
			} else if f.under > 0 {
				i := f.below(f.under)
				b, err := f.link.Deliver(i)
				f.answers(t, deliver, i, err)
				if string(b) != left[i] {
					t.Fatalf("room %d: at the place %d came %q, want %q", s.room, i, b, left[i])
				}
				left = slices.Delete(left, i, i+1)
			}
			left = append(left, f.sent[seen:]...)
			seen = len(f.sent)
		}
		if got := f.rest(t); !slices.Equal(got, left) {
			t.Fatalf("room %d: the rest is %q, want %q", s.room, got, left)
		}
	}
}

// TestRefusedTurnsNothing (R7): behind calls of places that are not there, and Twice of a full link, a link is as it was.
func TestRefusedTurnsNothing(t *testing.T) {
	for n, s := range someSettings() {
		p, d := newPair(t, s.room), newDraws(17, n, s)
		for range s.calls / 3 {
			d.step(t, p)
			counts := p.link.Counts()
			for _, c := range placeCalls() {
				for _, i := range []int{math.MinInt, -1, p.link.Len(), p.link.Len() + 1, math.MaxInt} {
					if err := p.does(t, c, i); err != api.ErrNone {
						t.Fatalf("%s(%d) is %v", c.name, i, err)
					}
				}
			}
			if p.link.Len() == s.room {
				if err := p.does(t, twiceCall(), d.below(s.room)); err != api.ErrFull {
					t.Fatalf("Twice of a full link is %v", err)
				}
			}
			p.wantCounts(t, counts)
			p.checkKept(t)
		}
	}
}

// TestSameCallsDoTheSame (R3): two links to which the same is done tell the same.
func TestSameCallsDoTheSame(t *testing.T) {
	for n, s := range someSettings() {
		a, b := newFlow(t, 18, n, s), newFlow(t, 18, n, s)
		for range s.calls {
			x, okX := a.step(t)
			y, okY := b.step(t)
			if x != y || okX != okY || a.link.Counts() != b.link.Counts() {
				t.Fatalf("two links part: %q, %v, %v and %q, %v, %v", x, okX, a.link.Counts(), y, okY, b.link.Counts())
			}
		}
		if !slices.Equal(a.rest(t), b.rest(t)) {
			t.Fatal("two links part at the end")
		}
	}
}
