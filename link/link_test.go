package link

import (
	"bytes"
	"math"
	"slices"
	"strconv"
	"strings"
	"testing"

	"garboard/api"
)

// TestExample: the chapter's.
func TestExample(t *testing.T) {
	l, err := New(1)
	if err != api.OK {
		t.Fatal(err)
	}
	if err := l.Send([]byte("a")); err != api.OK {
		t.Fatalf("the first one: %v", err)
	}
	if err := l.Send([]byte("b")); err != api.ErrFull {
		t.Fatalf("the second one: %v", err)
	}
	if got, want := l.Counts(), (Counts{Sent: 2, Dropped: 1}); got != want || l.Len() != 1 {
		t.Fatalf("Counts are %v, Len %d", got, l.Len())
	}
	if b, err := l.Deliver(0); string(b) != "a" || err != api.OK {
		t.Fatalf("%q, %v comes", b, err)
	}
}

// TestNew (P21.1): a room of 1 to 256 is an empty link's, which takes just so many; every other one is refused.
func TestNew(t *testing.T) {
	rooms := []int{math.MinInt, math.MinInt + 1, -1 << 32, -1<<32 + 1, -1 << 31, -257, -256, -255, -2, -1, 0, 257, 258, 512, 1 << 16, 1<<31 - 1, 1 << 31, 1 << 32, 1<<32 + 1, 1<<32 + 256, math.MaxInt - 1, math.MaxInt}
	for _, room := range rooms {
		if l, err := New(room); l != nil || err != api.ErrArg {
			t.Errorf("New(%d) is %v, %v", room, l, err)
		}
	}
	for room := 1; room <= mostRoom; room++ {
		p := newPair(t, room)
		p.wantCounts(t, Counts{})
		if p.link.Len() != 0 || p.clear(t) != 0 {
			t.Fatalf("New(%d) is not empty", room)
		}
		for n := range room {
			p.mustSend(t, strconv.Itoa(n))
		}
		if err := p.send(t, "more"); err != api.ErrFull {
			t.Fatalf("room %d: one more is %v", room, err)
		}
		p.checkKept(t)
	}
}

// fullRooms are rooms of links that are filled.
func fullRooms() []int { return []int{1, 2, 3, 7, 255, 256} }

// full is a link with as many messages as there may be, and its book.
func full(t *testing.T, room int) pair {
	t.Helper()
	p := newPair(t, room)
	for n := range room {
		p.mustSend(t, "m"+strconv.Itoa(n))
	}
	return p
}

// TestSendToFull (P21.1): what is sent to a full link counts as sent and as dropped, and is not under way; what was there stays.
func TestSendToFull(t *testing.T) {
	for _, room := range fullRooms() {
		p := full(t, room)
		for more := range 5 {
			if err := p.send(t, "more"); err != api.ErrFull || p.link.Len() != room {
				t.Fatalf("room %d: one more is %v, Len %d", room, err, p.link.Len())
			}
			p.wantCounts(t, Counts{Sent: uint32(room + more + 1), Dropped: uint32(more + 1)})
			p.checkKept(t)
		}
		p.wantAll(t, slices.Clone(p.book.lines)...)
		p.wantCounts(t, Counts{Sent: uint32(room + 5), Came: uint32(room), Dropped: 5})
	}
}

// TestRoomAnew (P21.1): what comes and what is dropped leaves room for others; what is doubled, put later or turned does not.
func TestRoomAnew(t *testing.T) {
	for _, room := range fullRooms() {
		for _, c := range []struct {
			call
			places int
		}{{deliverCall(), 1}, {dropCall(), 1}, {twiceCall(), 0}, {laterCall(), 0}, {turnBy(0, 1), 0}} {
			for _, i := range []int{0, room / 2, room - 1} {
				p := full(t, room)
				p.does(t, c.call, i)
				for range c.places {
					p.mustSend(t, "anew")
				}
				if err := p.send(t, "more"); err != api.ErrFull {
					t.Fatalf("room %d: behind %s(%d) one more is %v", room, c.name, i, err)
				}
				p.checkKept(t)
			}
		}
		p := full(t, room)
		if got := p.clear(t); got != room {
			t.Fatalf("room %d: Clear is %d", room, got)
		}
		for n := range room {
			p.mustSend(t, strconv.Itoa(n))
		}
		if err := p.send(t, "more"); err != api.ErrFull {
			t.Fatalf("room %d: behind Clear one more is %v", room, err)
		}
	}
}

// places are some that are there where so many are under way, and many that are not.
func places(under, room int) []int {
	all := []int{math.MinInt, math.MinInt + 1, math.MinInt + under, -1 << 32, -1<<32 + 1, -1 << 31, -257, -256, -under - 1, -under, -2, -1, 0, 1, under / 2}
	return append(all, under-2, under-1, under, under+1, room-1, room, room+1, 255, 256, 257, 1<<31-1, 1<<31, 1<<32, 1<<32+1, 1<<32+under, math.MaxInt-1, math.MaxInt)
}

// TestPlaces (P21.2): a place that is there is taken by each call, and any other one is ErrNone, of an empty link, of one that is partly filled, and of a full one.
func TestPlaces(t *testing.T) {
	for _, room := range []int{1, 2, 3, 10, 255, 256} {
		for _, under := range []int{0, 1, 2, room / 2, room - 1, room} {
			for _, i := range places(under, room) {
				for _, c := range placeCalls() {
					if under > room {
						continue
					}
					p := newPair(t, room)
					for n := range under {
						p.mustSend(t, "m"+strconv.Itoa(n))
					}
					want := api.OK
					if i < 0 || i >= under {
						want = api.ErrNone
					} else if c.name == "Twice" && under == room {
						want = api.ErrFull
					}
					if err := p.does(t, c, i); err != want {
						t.Fatalf("%s(%d) with %d of %d under way is %v, want %v", c.name, i, under, room, err, want)
					}
					p.checkKept(t)
				}
			}
		}
	}
}

// TestNothingBesideErrors (R1): Deliver of a place that is not there answers no bytes.
func TestNothingBesideErrors(t *testing.T) {
	p := filled(t, 3, "a", "b")
	for _, i := range []int{math.MinInt, -2, -1, 2, 3, math.MaxInt} {
		if b, err := p.link.Deliver(i); len(b) != 0 || err != api.ErrNone {
			t.Errorf("Deliver(%d) is %q, %v", i, b, err)
		}
	}
	p.wantAll(t, "a", "b")
}

// TestDeliver (P21.2): the message at the place comes, of the first, the last and each between, and the others stay in their order.
func TestDeliver(t *testing.T) {
	for i, want := range []string{"a", "b", "c", "d"} {
		p := filled(t, 4, "a", "b", "c", "d")
		if got, err := p.deliver(t, i); got != want || err != api.OK {
			t.Fatalf("Deliver(%d) is %q, %v", i, got, err)
		}
		p.wantCounts(t, Counts{Sent: 4, Came: 1})
		p.wantAll(t, slices.Delete([]string{"a", "b", "c", "d"}, i, i+1)...)
		p.wantCounts(t, Counts{Sent: 4, Came: 4})
	}
}

// TestDrop (P21.2): the message at the place is dropped, and counts as that, and the others stay in their order.
func TestDrop(t *testing.T) {
	for i := range 4 {
		p := filled(t, 4, "a", "b", "c", "d")
		if err := p.does(t, dropCall(), i); err != api.OK {
			t.Fatalf("Drop(%d) is %v", i, err)
		}
		p.wantCounts(t, Counts{Sent: 4, Dropped: 1})
		p.wantAll(t, slices.Delete([]string{"a", "b", "c", "d"}, i, i+1)...)
		p.wantCounts(t, Counts{Sent: 4, Came: 3, Dropped: 1})
	}
}

// TestTwice (P21.2): a second one of the message is the last one, and the first one stays in its place; it counts as none that was sent.
func TestTwice(t *testing.T) {
	for i, second := range []string{"a", "b", "c"} {
		p := filled(t, 5, "a", "b", "c")
		if err := p.does(t, twiceCall(), i); err != api.OK {
			t.Fatalf("Twice(%d) is %v", i, err)
		}
		p.wantCounts(t, Counts{Sent: 3})
		if err := p.does(t, twiceCall(), 3); err != api.OK {
			t.Fatalf("Twice of the second one is %v", err)
		}
		p.wantAll(t, "a", "b", "c", second, second)
		p.wantCounts(t, Counts{Sent: 3, Came: 5})
	}
}

// TestTwiceOfFull (P21.2, R1, R7): of a full link it is ErrFull and counts as nothing, not as dropped, either; a place that is not there is told ahead of that.
func TestTwiceOfFull(t *testing.T) {
	for _, room := range fullRooms() {
		p := full(t, room)
		for _, i := range places(room, room) {
			want := api.ErrNone
			if i >= 0 && i < room {
				want = api.ErrFull
			}
			if err := p.does(t, twiceCall(), i); err != want {
				t.Fatalf("room %d: Twice(%d) is %v, want %v", room, i, err, want)
			}
			p.wantCounts(t, Counts{Sent: uint32(room)})
			p.checkKept(t)
		}
	}
}

// TestTwiceToTheLast (P21.2): a second one takes the last room that there is, and none behind it.
func TestTwiceToTheLast(t *testing.T) {
	for _, room := range []int{2, 3, 256} {
		p := filled(t, room, "a")
		for range room - 1 {
			if err := p.does(t, twiceCall(), p.link.Len()-1); err != api.OK {
				t.Fatalf("room %d: Twice with %d is %v", room, p.link.Len(), err)
			}
		}
		if err := p.does(t, twiceCall(), 0); err != api.ErrFull {
			t.Fatalf("room %d: Twice of a full link is %v", room, err)
		}
		p.wantAll(t, slices.Repeat([]string{"a"}, room)...)
	}
}

// TestLater (P21.2): the message at the place is the last one, of the first, the last and each between, of a full link, too; nothing counts.
func TestLater(t *testing.T) {
	for _, room := range []int{4, 9} {
		for i, want := range [][]string{{"b", "c", "d", "a"}, {"a", "c", "d", "b"}, {"a", "b", "d", "c"}, {"a", "b", "c", "d"}} {
			p := filled(t, room, "a", "b", "c", "d")
			if err := p.does(t, laterCall(), i); err != api.OK {
				t.Fatalf("Later(%d) is %v", i, err)
			}
			p.wantCounts(t, Counts{Sent: 4})
			p.wantAll(t, want...)
		}
	}
	p := filled(t, 1, "a")
	p.does(t, laterCall(), 0)
	p.wantAll(t, "a")
}

// TestLaterRound (P21.2): as often as there are messages the first one is put later, and all stand as they stood.
func TestLaterRound(t *testing.T) {
	for _, room := range fullRooms() {
		p := full(t, room)
		all := slices.Clone(p.book.lines)
		for range room {
			p.does(t, laterCall(), 0)
		}
		p.wantAll(t, all...)
	}
}

// masks are none, each bit alone, ends and ordinary ones.
func masks() []uint32 {
	all := []uint32{0, 2, 3, 0x80000001, 0x7FFFFFFF, 0xFFFFFFFE, 0xFFFFFFFF, 0xAAAAAAAA, 0x55555555, 0x00FF00FF, 0x12345678}
	for i := range 32 {
		all = append(all, 1<<i)
	}
	return all
}

// bursts are where they begin: at all bits of so many bytes, beside them, and far off.
func bursts(size int) []int {
	all := []int{math.MinInt, math.MinInt + 1, math.MinInt + 31, math.MinInt + 32, -1 << 32, -1 << 31, -1000, 1000, 1<<31 - 1, 1 << 32, math.MaxInt - 32, math.MaxInt - 31, math.MaxInt - 30, math.MaxInt - 1, math.MaxInt}
	for at := -40; at < 8*size+40; at++ {
		all = append(all, at)
	}
	return all
}

// TestTurn (P21.2): Turn leaves layer 3's burst of the message in its place, for every kind of place and mask, and so it comes, comes twice, and comes later; it counts as turned, though no bit of it may be.
func TestTurn(t *testing.T) {
	for _, m := range []string{"", "\x00", "\xFF", "ab", "\x00\x00\x00\x00", "hello", "123456789abc"} {
		for _, at := range bursts(len(m)) {
			for _, mask := range masks() {
				p := filled(t, 4, "first", m, "last")
				p.turn(t, 1, at, mask)
				p.wantCounts(t, Counts{Sent: 3, Turned: 1})
				want := burst(m, at, mask)
				p.does(t, twiceCall(), 1)
				p.does(t, laterCall(), 1)
				p.wantAll(t, "first", "last", want, want)
			}
		}
	}
}

// TestTurnByHand (P21.2): bits are counted from the lowest one of the first byte on; those ahead of the message and behind it are none.
func TestTurnByHand(t *testing.T) {
	for _, c := range []struct {
		sent string
		at   int
		mask uint32
		want string
	}{
		{"\x00\x00\x00\x00\x00", 0, 1, "\x01\x00\x00\x00\x00"},
		{"\x00\x00\x00\x00\x00", 7, 3, "\x80\x01\x00\x00\x00"},
		{"\x00\x00\x00\x00\x00", 0, 0x04030201, "\x01\x02\x03\x04\x00"},
		{"\x00\x00\x00\x00\x00", 4, math.MaxUint32, "\xF0\xFF\xFF\xFF\x0F"},
		{"\x00\x00\x00\x00\x00", -31, 1 << 31, "\x01\x00\x00\x00\x00"},
		{"\x00\x00\x00\x00\x00", -32, math.MaxUint32, "\x00\x00\x00\x00\x00"},
		{"\x00\x00\x00\x00\x00", 39, math.MaxUint32, "\x00\x00\x00\x00\x80"},
		{"\x00\x00\x00\x00\x00", 40, math.MaxUint32, "\x00\x00\x00\x00\x00"},
		{"abc", 8, 0xFF, "a\x9Dc"},
		{"abc", 5, 0, "abc"},
		{"", 0, math.MaxUint32, ""},
		{"", -5, math.MaxUint32, ""},
		{"abc", math.MinInt, math.MaxUint32, "abc"},
		{"abc", math.MaxInt, math.MaxUint32, "abc"},
	} {
		p := filled(t, 1, c.sent)
		if err := p.turn(t, 0, c.at, c.mask); err != api.OK {
			t.Fatalf("Turn(0, %d, %X) is %v", c.at, c.mask, err)
		}
		p.wantCounts(t, Counts{Sent: 1, Turned: 1})
		p.wantAll(t, c.want)
	}
}

// TestTurnFull (P21.2): of a full link each message is turned alone, once and several times over.
func TestTurnFull(t *testing.T) {
	for _, room := range fullRooms() {
		p := full(t, room)
		for i := range room {
			p.turn(t, i, i%20, uint32(i))
			p.turn(t, 0, 3, 1)
			p.turn(t, room-1, 4, 6)
			p.checkKept(t)
		}
		p.wantCounts(t, Counts{Sent: uint32(room), Turned: uint32(3 * room)})
		p.wantAll(t, slices.Clone(p.book.lines)...)
	}
}

// someMessages are of no bytes, of one and of many.
func someMessages() []string {
	var all []string
	for _, size := range []int{0, 1, 2, 31, 32, 33, 255, 256, api.MaxPayload, api.MaxPayload + 1, 1 << 16, 1<<20 + 3} {
		all = append(all, strings.Repeat("\x00", size), strings.Repeat("\xFF", size), strings.Repeat("abc", size)[:size])
	}
	return all
}

// TestMessages (P21.1 to P21.3): a message of any length is under way, and comes, doubled and turned, too.
func TestMessages(t *testing.T) {
	for _, m := range someMessages() {
		p := filled(t, 4, "a", m)
		p.does(t, twiceCall(), 1)
		p.does(t, laterCall(), 0)
		p.turn(t, 0, 8*len(m)-5, 0xFF)
		p.wantAll(t, burst(m, 8*len(m)-5, 0xFF), m, "a")
	}
}

// TestNoBytes (P21.1, P21.2, R6): a message of no bytes, and a nil one, is under way like every other one.
func TestNoBytes(t *testing.T) {
	l, _ := New(3)
	for n, b := range [][]byte{nil, {}, nil} {
		if err := l.Send(b); err != api.OK || l.Len() != n+1 {
			t.Fatalf("Send(%v) is %v, Len %d", b, err, l.Len())
		}
	}
	if err := l.Send(nil); err != api.ErrFull {
		t.Fatalf("of a full link Send(nil) is %v", err)
	}
	for _, err := range []api.Errno{l.Drop(1), l.Later(0), l.Twice(1), l.Turn(2, 0, 1)} {
		if err != api.OK {
			t.Fatal(err)
		}
	}
	for range 3 {
		if b, err := l.Deliver(0); len(b) != 0 || err != api.OK {
			t.Fatalf("%v, %v comes", b, err)
		}
	}
	if got, want := l.Counts(), (Counts{Sent: 4, Came: 3, Dropped: 2, Turned: 1}); got != want || l.Len() != 0 {
		t.Fatalf("Counts are %v, Len %d", got, l.Len())
	}
}

// TestClear (P21.2): all that are under way are dropped, none of an empty link, some, and as many as there may be.
func TestClear(t *testing.T) {
	for _, room := range fullRooms() {
		for under := 0; under <= room; under += max(1, room/5) {
			p := newPair(t, room)
			for range under {
				p.mustSend(t, "a")
			}
			if got := p.clear(t); got != under {
				t.Fatalf("Clear of %d is %d", under, got)
			}
			p.wantCounts(t, Counts{Sent: uint32(under), Dropped: uint32(under)})
			for range 2 {
				if got := p.clear(t); got != 0 {
					t.Fatalf("Clear of an empty link is %d", got)
				}
			}
			p.checkKept(t)
			p.wantCounts(t, Counts{Sent: uint32(under), Dropped: uint32(under)})
			p.mustSend(t, "b")
			p.wantAll(t, "b")
		}
	}
}

// TestEachCounts (P21.1, P21.2): which call counts what.
func TestEachCounts(t *testing.T) {
	for _, c := range []struct {
		name string
		call func(l *Link)
		want Counts
	}{
		{"Send", func(l *Link) { l.Send([]byte("d")) }, Counts{Sent: 1}},
		{"Deliver", func(l *Link) { l.Deliver(1) }, Counts{Came: 1}},
		{"Drop", func(l *Link) { l.Drop(1) }, Counts{Dropped: 1}},
		{"Twice", func(l *Link) { l.Twice(1) }, Counts{}},
		{"Later", func(l *Link) { l.Later(1) }, Counts{}},
		{"Turn", func(l *Link) { l.Turn(1, 0, 1) }, Counts{Turned: 1}},
		{"Turn of no bit", func(l *Link) { l.Turn(1, 0, 0) }, Counts{Turned: 1}},
		{"Clear", func(l *Link) { l.Clear() }, Counts{Dropped: 3}},
		{"Len", func(l *Link) { l.Len() }, Counts{}},
		{"Counts", func(l *Link) { l.Counts() }, Counts{}},
		{"Send to a full one", func(l *Link) { l.Send(nil); l.Send(nil); l.Send(nil) }, Counts{Sent: 3, Dropped: 2}},
		{"Twice of a full one", func(l *Link) { l.Twice(1); l.Twice(1); l.Twice(1) }, Counts{}},
		{"places that are none", func(l *Link) { l.Deliver(3); l.Drop(3); l.Twice(3); l.Later(3); l.Turn(3, 0, 1) }, Counts{}},
	} {
		p := filled(t, 4, "a", "b", "c")
		p.lay(t, Counts{})
		c.call(p.link)
		if got := p.link.Counts(); got != c.want {
			t.Errorf("%s: Counts are %v, want %v", c.name, got, c.want)
		}
	}
}

// TestLastCounts (P21.1, P21.2): a counter at its end stays there, with each call that counts; the call does what it does.
func TestLastCounts(t *testing.T) {
	for _, from := range []uint32{lastCount - 300, lastCount - 256, lastCount - 255, lastCount - 3, lastCount - 1, lastCount} {
		p := full(t, mostRoom)
		p.lay(t, Counts{from, from, from, from})
		for range 3 {
			p.send(t, "more")
			p.turn(t, 7, 3, 1)
			p.deliver(t, 5)
			p.mustSend(t, "anew")
			p.does(t, dropCall(), 0)
			p.mustSend(t, "anew")
		}
		p.checkKept(t)
		if got := p.clear(t); got != mostRoom {
			t.Fatalf("Clear is %d", got)
		}
		p.clear(t)
		p.mustSend(t, "a")
		p.wantAll(t, "a")
		if got := p.link.Counts().Dropped; got < from {
			t.Fatalf("the dropped ones go from %d to %d", from, got)
		}
	}
}

// TestLastCountsAlone (P21.2): the counter at its end keeps no other one from counting.
func TestLastCountsAlone(t *testing.T) {
	for _, c := range []struct{ from, want Counts }{
		{Counts{Sent: lastCount}, Counts{lastCount, 1, 4, 1}},
		{Counts{Came: lastCount}, Counts{3, lastCount, 4, 1}},
		{Counts{Dropped: lastCount}, Counts{3, 1, lastCount, 1}},
		{Counts{Dropped: lastCount - 2}, Counts{3, 1, lastCount, 1}},
		{Counts{Turned: lastCount}, Counts{3, 1, 4, lastCount}},
	} {
		p := filled(t, 3, "a", "b")
		p.lay(t, c.from)
		p.mustSend(t, "c")
		p.send(t, "d")
		p.deliver(t, 1)
		p.turn(t, 1, 0, 1)
		p.does(t, dropCall(), 0)
		p.mustSend(t, "e")
		if got := p.clear(t); got != 2 {
			t.Fatalf("Clear is %d", got)
		}
		p.wantCounts(t, c.want)
	}
}

// TestSentMayBeWrittenOver (R4): what is written into bytes that were sent, or behind them, turns nothing under way, and Send writes nothing into them.
func TestSentMayBeWrittenOver(t *testing.T) {
	b := make([]byte, 3, 40)
	l, _ := New(5)
	for n := range 4 {
		copy(b, "abc")
		b[0] = byte('0' + n)
		kept := bytes.Clone(b[:40])
		if err := l.Send(b); err != api.OK || !bytes.Equal(b[:40], kept) {
			t.Fatalf("Send is %v, the bytes are %q", err, b)
		}
	}
	l.Twice(1)
	b[1], b[2] = 'x', 'x'
	_ = append(b, "yyyy"...)
	l.Later(0)
	l.Turn(0, 0, 4)
	if string(b) != "3xx" {
		t.Fatalf("what was sent is %q", b)
	}
	for _, want := range []string{"5bc", "2bc", "3bc", "1bc", "0bc"} {
		if got, err := l.Deliver(0); string(got) != want || err != api.OK {
			t.Fatalf("%q, %v comes, want %q", got, err, want)
		}
	}
}

// spoil writes over bytes, and behind them as far as there is room.
func spoil(b []byte) {
	b = b[:cap(b)]
	for i := range b {
		b[i] = '#'
	}
}

// TestDeliveredMayBeWrittenOver (R4): what is written into bytes that came turns nothing under way, a second one behind Twice among it, whichever of the two comes first.
func TestDeliveredMayBeWrittenOver(t *testing.T) {
	for first := range 4 {
		for _, turned := range []int{-1, 0, 1, 2, 3} {
			p := filled(t, 4, "abc", "def")
			p.does(t, twiceCall(), 0)
			p.does(t, twiceCall(), 2)
			p.turn(t, turned, 2, 9)
			b, err := p.link.Deliver(first)
			p.book.deliver(first)
			if err != api.OK {
				t.Fatal(err)
			}
			spoil(b)
			p.checkKept(t)
			p.does(t, twiceCall(), 1)
			for p.link.Len() > 0 {
				next, err := p.link.Deliver(0)
				if want, _ := p.book.deliver(0); string(next) != want || err != api.OK {
					t.Fatalf("%q, %v comes, want %q", next, err, want)
				}
				spoil(next)
				p.checkKept(t)
			}
		}
	}
}

// TestDeliveredStays (R4): bytes that came stay as they are, whatever is called later, and so do others that came.
func TestDeliveredStays(t *testing.T) {
	p := filled(t, 6, "abc", "def", "ghi")
	p.does(t, twiceCall(), 0)
	p.does(t, twiceCall(), 0)
	var came [][]byte
	for _, i := range []int{0, 2} {
		b, _ := p.link.Deliver(i)
		p.book.deliver(i)
		came = append(came, b)
	}
	for i := range 3 {
		p.turn(t, i, 0, math.MaxUint32)
		p.does(t, laterCall(), 0)
	}
	for range 3 {
		p.mustSend(t, "xyz")
	}
	p.clear(t)
	if string(came[0]) != "abc" || string(came[1]) != "abc" {
		t.Fatalf("what came is %q", came)
	}
	spoil(came[0])
	if string(came[1]) != "abc" {
		t.Fatalf("what came is %q", came)
	}
}

// TestTurnAlone (P21.2, R4): of one that was doubled just that one is turned that stands in the place, the first or the second; and the others are not.
func TestTurnAlone(t *testing.T) {
	for i := range 4 {
		p := filled(t, 4, "abc", "abc")
		p.does(t, twiceCall(), 0)
		p.does(t, twiceCall(), 2)
		p.turn(t, i, 0, 2)
		want := []string{"abc", "abc", "abc", "abc"}
		want[i] = "cbc"
		p.wantAll(t, want...)
	}
}

// TestNilAndUnmade (P21.2): a nil link, and one that New did not give, answer ErrNil, nothing and 0, whatever they are asked, as often as they are.
func TestNilAndUnmade(t *testing.T) {
	var none *Link
	for name, l := range map[string]*Link{"nil": none, "unmade": {}, "new": new(Link)} {
		for range 3 {
			for _, b := range [][]byte{nil, {}, []byte("abc"), make([]byte, 5000)} {
				if err := l.Send(b); err != api.ErrNil {
					t.Errorf("%s: Send is %v", name, err)
				}
			}
			for _, i := range []int{math.MinInt, -1, 0, 1, 255, 256, math.MaxInt} {
				if b, err := l.Deliver(i); len(b) != 0 || err != api.ErrNil {
					t.Errorf("%s: Deliver(%d) is %q, %v", name, i, b, err)
				}
				for _, c := range append(placeCalls(), turnBy(math.MinInt, 1), turnBy(math.MaxInt, math.MaxUint32), turnBy(0, 0)) {
					if err := c.link(l, i); err != api.ErrNil {
						t.Errorf("%s: %s(%d) is %v", name, c.name, i, err)
					}
				}
			}
			if l.Len() != 0 || l.Counts() != (Counts{}) || l.Clear() != 0 {
				t.Errorf("%s: Len is %d, Counts are %v", name, l.Len(), l.Counts())
			}
		}
	}
}

// TestLinksAlone (R3): what is done to one link plays no part in another, though both were sent the same bytes.
func TestLinksAlone(t *testing.T) {
	a, b := newPair(t, 2), newPair(t, 3)
	m := []byte("abc")
	for _, p := range []pair{a, b} {
		if err := p.link.Send(m); err != api.OK {
			t.Fatal(err)
		}
		p.book.send("abc")
	}
	a.turn(t, 0, 0, 2)
	a.mustSend(t, "d")
	a.send(t, "e")
	b.check(t)
	b.checkKept(t)
	a.clear(t)
	b.wantAll(t, "abc")
	a.check(t)
}

// TestKeptNoMore: neither what came nor what was dropped is kept.
func TestKeptNoMore(t *testing.T) {
	for _, room := range fullRooms() {
		p := full(t, room)
		for p.link.Len() > room/2 {
			p.deliver(t, p.link.Len()/2)
			p.checkKept(t)
		}
		for p.link.Len() > 0 {
			p.does(t, dropCall(), p.link.Len()-1)
			p.checkKept(t)
		}
		for n := range 3 * room {
			p.mustSend(t, strconv.Itoa(n))
			p.deliver(t, 0)
			p.checkKept(t)
		}
		if got := cap(p.link.under); got > 2*mostRoom {
			t.Fatalf("room %d: there are %d places", room, got)
		}
	}
}
