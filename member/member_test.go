package member

import (
	"slices"
	"testing"

	"garboard/api"
)

// TestExample: the chapter's example.
func TestExample(t *testing.T) {
	l := newList(t)
	if n, err := l.Add(0); n != 1 || err != api.OK {
		t.Fatal(n, err)
	}
	wantReplica(t, l, Replica{N: 1, State: Starting})
	if anew, err := l.Up(0, 1, 5); anew || err != api.OK {
		t.Fatal(anew, err)
	}
	wantReplica(t, l, Replica{N: 1, State: Ready, Inc: 5})
	if err := l.Bind(1, 9); err != api.OK {
		t.Fatal(err)
	}
	if anew, err := l.Up(0, 1, 6); !anew || err != api.OK {
		t.Fatal(anew, err)
	}
	wantReplica(t, l, Replica{N: 1, State: Ready, Inc: 6})
}

// TestNumbersOfStates: the states have the chapter's numbers.
func TestNumbersOfStates(t *testing.T) {
	if Starting != 1 || Ready != 2 || Draining != 3 || Down != 4 {
		t.Error(Starting, Ready, Draining, Down)
	}
}

// TestNew (P24.1): New's is empty, at the time 0.
func TestNew(t *testing.T) {
	l := newList(t)
	if len(l.All()) != 0 || l.Live() != 0 || l.Now() != 0 {
		t.Error(l.All(), l.Live(), l.Now())
	}
	for _, n := range []uint64{0, 1, 2, 8, 1 << 63, greatestNumber} {
		wantNone(t, l, n)
	}
}

// TestAdd (P24.1): a list takes replicas until there are 8, with the numbers from 1 on; each is Starting since then, of no known incarnation, with nothing bound to it.
func TestAdd(t *testing.T) {
	p := newPair(t)
	var numbers []uint64
	for n := uint64(1); n <= room; n++ {
		now := int64(n) * 10
		if got := p.add(t, now); got != n {
			t.Fatalf("the replica %d has the number %d", n, got)
		}
		numbers = append(numbers, n)
		wantReplica(t, p.list, Replica{N: n, State: Starting, Since: now})
		wantAll(t, p.list, numbers...)
		wantLive(t, p.list, int(n))
	}
	for now := int64(81); now < 84; now++ {
		p.refused(t, addCall(), now, api.ErrMany)
		wantAll(t, p.list, numbers...)
		wantNow(t, p.list, now)
	}
}

// TestAddBehindRemove (P24.1): out of 8 one is removed, the first one, one between or the last one: there is room for one again, whose number is a new one.
func TestAddBehindRemove(t *testing.T) {
	for goes := uint64(1); goes <= room; goes++ {
		p := newPair(t)
		p.adds(t, room)
		p.must(t, drainCall(goes), 5)
		p.refused(t, addCall(), 6, api.ErrMany)
		p.must(t, removeCall(goes, 0), 7)
		wantNone(t, p.list, goes)
		if n := p.add(t, 8); n != room+1 {
			t.Fatalf("behind the removal of %d the next one has the number %d", goes, n)
		}
		wantReplica(t, p.list, Replica{N: room + 1, State: Starting, Since: 8})
		wantNone(t, p.list, goes)
		p.refused(t, addCall(), 9, api.ErrMany)
		wantNone(t, p.list, room+2)
	}
}

// TestNoneComesAgain (P24.1): no number comes again, also where the last one, or all, were removed, and what is added has nothing of what was there.
func TestNoneComesAgain(t *testing.T) {
	p := newPair(t)
	for n := uint64(1); n < 1000; n++ {
		now := int64(n)
		if got := p.add(t, now); got != n {
			t.Fatalf("the number is %d, want %d", got, n)
		}
		wantReplica(t, p.list, Replica{N: n, State: Starting, Since: now})
		p.must(t, upCall(n, n), now)
		p.must(t, drainCall(n), now)
		p.must(t, bindCall(n, 5), now)
		p.must(t, removeCall(n, 0), now)
		wantAll(t, p.list)
		wantLive(t, p.list, 0)
	}
}

// TestRefusedAddTakesNoNumber (P24.1): an Add that is refused takes none.
func TestRefusedAddTakesNoNumber(t *testing.T) {
	p := newPair(t)
	p.adds(t, room)
	for range 5 {
		p.refused(t, addCall(), 1, api.ErrMany)
	}
	p.must(t, drainCall(3), 1)
	p.must(t, removeCall(3, 0), 1)
	if n := p.add(t, 1); n != room+1 {
		t.Errorf("the number is %d", n)
	}
}

// lateNumbers is a list whose last number was that one, which is laid, as so many calls take too long.
func lateNumbers(t *testing.T, last uint64) pair {
	t.Helper()
	p := newPair(t)
	p.list.last, p.book.last = last, last
	return p
}

// TestLastNumber (P24.1): the number 2^63 - 1 is the last one, also with room for more.
func TestLastNumber(t *testing.T) {
	for before := range uint64(4) {
		p := lateNumbers(t, lastGiven-before)
		for left := before; left > 0; left-- {
			if n := p.add(t, 3); n != lastGiven-left+1 {
				t.Fatalf("the number is %d, with %d left", n, left)
			}
		}
		for now := int64(4); now < 8; now++ {
			p.refused(t, addCall(), now, api.ErrMany)
			wantNow(t, p.list, now)
		}
		for left := before; left > 0; left-- {
			n := uint64(lastGiven - left + 1)
			p.must(t, drainCall(n), 9)
			p.must(t, removeCall(n, 0), 9)
			p.refused(t, addCall(), 9, api.ErrMany)
		}
		wantAll(t, p.list)
	}
}

// TestLateNumbers (P24.1 to P24.3): great numbers are numbers as others are, and stand behind lesser ones.
func TestLateNumbers(t *testing.T) {
	p := newPair(t)
	p.adds(t, 3)
	p.list.last, p.book.last = lastGiven-2, lastGiven-2
	p.adds(t, 2)
	wantAll(t, p.list, 1, 2, 3, lastGiven-1, lastGiven)
	p.must(t, upCall(lastGiven, 4), 7)
	p.must(t, bindCall(lastGiven, 4), 7)
	p.must(t, drainCall(lastGiven-1), 7)
	p.must(t, removeCall(lastGiven-1, 4), 7)
	wantReplica(t, p.list, Replica{N: lastGiven, State: Ready, Inc: 4, Bound: 4, Since: 7})
	wantAll(t, p.list, 1, 2, 3, lastGiven)
	wantLive(t, p.list, 4)
}

// TestNone (P24.1 to P24.3): calls with 0, with a number that was never given, with one that was removed and with the greatest one are of none, whatever else is wrong with them; with the one given last they are of that.
func TestNone(t *testing.T) {
	for _, many := range []int{0, 1, 3, room} {
		p := newPair(t)
		p.adds(t, many)
		none := []uint64{0, p.book.last + 1, p.book.last + 2, room + 3, 1<<32 + 1, lastGiven, 1 << 63, 1<<63 + 1, greatestNumber}
		if many == 3 {
			p.must(t, drainCall(2), 1)
			p.must(t, removeCall(2, 0), 1)
			none = append(none, 2)
		}
		for at, n := range none {
			for _, c := range callsOf(n) {
				p.refused(t, c, int64(at), api.ErrNone)
			}
			wantNone(t, p.list, n)
		}
		if many > 0 {
			p.must(t, upCall(p.book.last, 3), 100)
			p.must(t, bindCall(p.book.last, 2), 100)
			wantReplica(t, p.list, Replica{N: uint64(many), State: Ready, Inc: 3, Bound: 2, Since: 100})
			p.must(t, lostCall(p.book.last), 101)
			p.must(t, drainCall(p.book.last), 102)
			p.must(t, removeCall(p.book.last, 1), 103)
			wantNone(t, p.list, p.book.last)
		}
		p.checkLast(t)
	}
}

// TestOneAlone (P24.1, P24.2): a call of one replica plays no part in the others.
func TestOneAlone(t *testing.T) {
	for n := uint64(1); n <= room; n++ {
		for _, c := range []call{upCall(n, 6), lostCall(n), drainCall(n), bindCall(n, 9)} {
			p := newPair(t)
			p.adds(t, room)
			ahead := p.list.All()
			p.must(t, c, 10)
			for _, r := range ahead {
				if r.N != n {
					wantReplica(t, p.list, r)
				}
			}
			if got, _ := p.list.Get(n); got == ahead[n-1] {
				t.Fatalf("%+v did nothing to %+v", c, got)
			}
		}
	}
}

// someIncs are incarnations: 0, 1, the known one and those beside it, 2^63 and those beside it, and the greatest one.
func someIncs(known uint64) []uint64 {
	return []uint64{0, 1, 2, known - 1, known, known + 1, known + 1000, 1<<63 - 1, 1 << 63, 1<<63 + 1, greatestNumber - 1, greatestNumber}
}

// isUp is what Up is, of a replica of a kind: refused, or its state, what is bound to it and whether it was begun anew.
func (k kind) isUp(inc uint64) (taken bool, then kind, anew bool) {
	if inc == 0 || inc < k.inc {
		return false, k, false
	}
	then = kind{k.state, inc, k.bound}
	if k.state == Starting || k.state == Down {
		then.state = Ready
	}
	if k.inc > 0 && k.inc != inc {
		then.bound, anew = 0, true
	}
	return true, then, anew
}

// TestUp (P24.1): of a replica of each kind, with each incarnation: whether it is taken, its state then, since when, what is bound to it, and whether it was begun anew; and so with the same one once more.
func TestUp(t *testing.T) {
	for _, k := range kinds(0, 1, 77, mostOfOne) {
		for _, inc := range someIncs(k.inc) {
			p, n := k.pair(t, 100)
			taken, then, anew := k.isUp(inc)
			if !taken {
				p.refused(t, upCall(n, inc), 120, api.ErrArg)
				wantReplica(t, p.list, Replica{n, k.state, k.inc, k.bound, 100})
				continue
			}
			if got := p.must(t, upCall(n, inc), 120).anew; got != anew {
				t.Fatalf("%+v: Up with %d is %v, want %v", k, inc, got, anew)
			}
			since := int64(100)
			if then.state != k.state {
				since = 120
			}
			wantReplica(t, p.list, Replica{n, then.state, inc, then.bound, since})
			if p.must(t, upCall(n, inc), 130).anew {
				t.Fatalf("%+v: a second Up with %d has it begun anew", k, inc)
			}
			wantReplica(t, p.list, Replica{n, then.state, inc, then.bound, since})
			p.refused(t, upCall(n, inc-1), 140, api.ErrArg)
			p.refused(t, upCall(n, 0), 140, api.ErrArg)
			wantReplica(t, p.list, Replica{n, then.state, inc, then.bound, since})
		}
	}
}

// TestUpTwice (P24.1): what was bound behind a replica's beginning anew is bound until the next one, that of no known incarnation also behind the first one.
func TestUpTwice(t *testing.T) {
	p := newPair(t)
	n := p.add(t, 0)
	p.must(t, bindCall(n, 3), 0)
	for _, step := range []struct {
		inc   uint64
		anew  bool
		bound int
	}{{1, false, 3}, {1, false, 4}, {2, true, 0}, {2, false, 1}, {9, true, 0}, {10, true, 0}, {10, false, 1}, {greatestNumber, true, 0}, {greatestNumber, false, 1}} {
		if a := p.must(t, upCall(n, step.inc), 1); a.anew != step.anew {
			t.Fatalf("Up with %d is %v", step.inc, a.anew)
		}
		wantReplica(t, p.list, Replica{n, Ready, step.inc, step.bound, 1})
		p.must(t, bindCall(n, 1), 1)
	}
}

// TestLost (P24.1): Lost of one in each state: one that is Draining stays so, others are Down, since then or, if they were so, as ever; what is known of it stays.
func TestLost(t *testing.T) {
	for _, k := range kinds(0, 1, mostOfOne) {
		p, n := k.pair(t, 100)
		if k.state == Draining {
			for range 3 {
				p.refused(t, lostCall(n), 120, api.ErrState)
				wantReplica(t, p.list, Replica{n, Draining, k.inc, k.bound, 100})
			}
			continue
		}
		since := int64(120)
		if k.state == Down {
			since = 100
		}
		for now := int64(120); now < 123; now++ {
			p.must(t, lostCall(n), now)
			wantReplica(t, p.list, Replica{n, Down, k.inc, k.bound, since})
		}
		wantLive(t, p.list, 3)
	}
}

// TestDrain (P24.2): Drain of one in each state: it is Draining since then, and refused once it is; what is known of it stays.
func TestDrain(t *testing.T) {
	for _, k := range kinds(0, 1, mostOfOne) {
		p, n := k.pair(t, 100)
		since := int64(100)
		if k.state != Draining {
			p.must(t, drainCall(n), 120)
			since = 120
		}
		for now := int64(121); now < 124; now++ {
			p.refused(t, drainCall(n), now, api.ErrState)
			p.refused(t, lostCall(n), now, api.ErrState)
			wantReplica(t, p.list, Replica{n, Draining, k.inc, k.bound, since})
		}
		wantLive(t, p.list, 2)
	}
}

// TestDrainingStays (P24.1, P24.2): one that is Draining is not Ready again, also where it is begun anew, and it has been so since it was.
func TestDrainingStays(t *testing.T) {
	p := newPair(t)
	n := p.add(t, 0)
	p.must(t, drainCall(n), 10)
	for inc := uint64(1); inc < 5; inc++ {
		p.must(t, bindCall(n, 2), 0)
		p.must(t, upCall(n, inc), 10+int64(inc))
		p.refused(t, lostCall(n), 20, api.ErrState)
		p.refused(t, drainCall(n), 20, api.ErrState)
		wantBound := 0
		if inc == 1 {
			wantBound = 2
		}
		wantReplica(t, p.list, Replica{n, Draining, inc, wantBound, 10})
		wantLive(t, p.list, 0)
	}
}

// waits are waits of one that has been Draining for so long, and whether it may go with something bound to it.
func waits(drained int64) map[int64]bool {
	return map[int64]bool{
		leastInt: true, leastInt + 1: true, -lastTick: true, -1: true, 0: true, 1: drained >= 1, drained - 1: true, drained: true, drained + 1: false,
		2*drained + 1: false, lastTick + 1: false, 1 << 41: false, greatestInt - 1: false, greatestInt: false,
	}
}

// TestRemove (P24.2): Remove of one of each kind with each wait: one that is Draining goes, with something bound to it not for less than its wait; what was refused stays.
func TestRemove(t *testing.T) {
	for _, k := range kinds(0, 1, 2, mostOfOne) {
		for _, drained := range []int64{0, 1, 2, 1000, 1 << 33, lastTick - 100} {
			for wait, may := range waits(drained) {
				p, n := k.pair(t, 100)
				if k.state == Draining && (k.bound == 0 || may) {
					p.must(t, removeCall(n, wait), 100+drained)
					wantAll(t, p.list, 1, 3)
					wantNone(t, p.list, n)
					p.refused(t, removeCall(n, wait), 100+drained, api.ErrNone)
					continue
				}
				p.refused(t, removeCall(n, wait), 100+drained, api.ErrState)
				wantReplica(t, p.list, Replica{n, k.state, k.inc, k.bound, 100})
				wantNow(t, p.list, 100+drained)
			}
		}
	}
}

// TestRemoveLongest (P24.2): so also of one that has been Draining from 0 to the last tick.
func TestRemoveLongest(t *testing.T) {
	for wait, may := range waits(lastTick) {
		p, n := kind{Draining, 4, 1}.pair(t, 0)
		if may {
			p.must(t, removeCall(n, wait), lastTick)
			continue
		}
		p.refused(t, removeCall(n, wait), lastTick, api.ErrState)
	}
}

// TestRemoveWhileItWaits (P24.2): one to which something is bound goes just as its wait is over; or at once, as nothing is bound to it any more, be that taken or lost as it begins anew.
func TestRemoveWhileItWaits(t *testing.T) {
	for _, frees := range []call{bindCall(2, -3), upCall(2, 6)} {
		for _, wait := range []int64{1, 2, 10, 50} {
			p, n := kind{Draining, 5, 3}.pair(t, 100)
			for drained := range wait {
				p.refused(t, removeCall(n, wait), 100+drained, api.ErrState)
			}
			p.must(t, removeCall(n, wait), 100+wait)

			p, n = kind{Draining, 5, 3}.pair(t, 100)
			p.refused(t, removeCall(n, wait), 100, api.ErrState)
			p.must(t, bindCall(n, -2), 100)
			p.refused(t, removeCall(n, wait), 100, api.ErrState)
			p.must(t, bindCall(n, 2), 100)
			p.must(t, frees, 100)
			p.must(t, removeCall(n, wait), 100)
		}
	}
}

// TestRemoveWaitFromDrain (P24.2): how long it has been Draining counts from its Drain, not from when it was added, was up or was lost.
func TestRemoveWaitFromDrain(t *testing.T) {
	p := newPair(t)
	n := p.add(t, 0)
	p.must(t, upCall(n, 1), 1000)
	p.must(t, bindCall(n, 1), 0)
	p.must(t, lostCall(n), 2000)
	p.must(t, drainCall(n), 3000)
	p.must(t, upCall(n, 1), 3005)
	p.refused(t, removeCall(n, 10), 3009, api.ErrState)
	p.must(t, removeCall(n, 10), 3010)
}

// someBys are by how many more are bound where so many are: up to just 0 and 2^20, one beyond each, and the greatest ones.
func someBys(bound int) []int {
	return []int{
		0, 1, -1, 2, -2, -bound, -bound - 1, -bound + 1, mostOfOne - bound, mostOfOne - bound + 1, mostOfOne - bound - 1,
		mostOfOne, -mostOfOne, mostOfOne + 1, -mostOfOne - 1, mostOfOne - 1, 1 << 32, -1 << 32, leastInt, leastInt + 1, leastInt + bound, greatestInt, greatestInt - 1, greatestInt - bound,
	}
}

// TestBind (P24.2): so many more, or fewer, are bound to one of each kind, if it is not below 0 then and not above 2^20; else it is refused.
func TestBind(t *testing.T) {
	taken, refused := 0, 0
	for _, k := range kinds(0, 1, 2, 3000, mostOfOne-1, mostOfOne) {
		for _, by := range someBys(k.bound) {
			p, n := k.pair(t, 100)
			most, fewest := mostOfOne-k.bound, -k.bound
			if by < fewest || by > most {
				p.refused(t, bindCall(n, by), 200, api.ErrArg)
				wantReplica(t, p.list, Replica{n, k.state, k.inc, k.bound, 100})
				refused++
				continue
			}
			p.must(t, bindCall(n, by), 200)
			wantReplica(t, p.list, Replica{n, k.state, k.inc, k.bound + by, 100})
			wantNow(t, p.list, 100)
			taken++
		}
	}
	if taken < 100 || refused < 100 {
		t.Errorf("%d are taken, %d are refused", taken, refused)
	}
}

// TestBindUpAndDown (P24.2): one by one up to 2^20 and down to 0, and no further.
func TestBindUpAndDown(t *testing.T) {
	l := newList(t)
	n, _ := l.Add(0)
	for bound := range mostOfOne {
		if err := l.Bind(n, 1); err != api.OK {
			t.Fatalf("with %d: %v", bound, err)
		}
	}
	if err := l.Bind(n, 1); err != api.ErrArg {
		t.Fatal(err)
	}
	wantReplica(t, l, Replica{N: n, State: Starting, Bound: mostOfOne})
	for left := mostOfOne; left > 0; left-- {
		if err := l.Bind(n, -1); err != api.OK {
			t.Fatalf("with %d: %v", left, err)
		}
	}
	if err := l.Bind(n, -1); err != api.ErrArg {
		t.Fatal(err)
	}
	wantReplica(t, l, Replica{N: n, State: Starting})
}

// someNows are nows of a list whose time is at: its own, earlier and later ones, and ones that are none; and the time that it has then.
func someNows(at int64) map[int64]int64 {
	return map[int64]int64{
		at: at, at - 1: at, at - 6: at, 0: at, -1: at, -at - 1: at, leastInt: at, leastInt + 1: at,
		min(at+1, lastTick): min(at+1, lastTick), min(at+6, lastTick): min(at+6, lastTick), lastTick - 1: max(at, lastTick-1), lastTick: lastTick,
		lastTick + 1: at, lastTick + at + 1: at, 1 << 41: at, greatestInt - 1: at, greatestInt: at,
	}
}

// someTimes are times of lists.
func someTimes() []int64 { return []int64{0, 1, 100, 1 << 33, lastTick - 1, lastTick} }

// TestNow (P24.1 to P24.3): the time is the last now that was one, and not an earlier one, whichever call has it, be it refused or not; Bind has none.
func TestNow(t *testing.T) {
	for _, at := range someTimes() {
		for now, then := range someNows(at) {
			for _, k := range kinds(2) {
				for _, n := range []uint64{0, 2} {
					for _, c := range append(callsOf(n), addCall()) {
						p, _ := k.pair(t, at)
						c.inList(p.list, now)
						want := then
						if c.name == "Bind" {
							want = at
						}
						wantNow(t, p.list, want)
					}
				}
			}
		}
	}
}

// TestNowOfAdd (P24.1, P24.3): so also of an Add that is refused, of a full list and behind the last number.
func TestNowOfAdd(t *testing.T) {
	for _, at := range someTimes() {
		for now, then := range someNows(at) {
			full := newPair(t)
			full.adds(t, room)
			full.refused(t, addCall(), at, api.ErrMany)
			full.refused(t, addCall(), now, api.ErrMany)
			wantNow(t, full.list, then)
			late := lateNumbers(t, lastGiven)
			late.refused(t, addCall(), at, api.ErrMany)
			late.refused(t, addCall(), now, api.ErrMany)
			wantNow(t, late.list, then)
		}
	}
}

// TestNowEverywhere (P24.1 to P24.3): each call, with each now, of a replica of each kind, does what the chapter's words say.
func TestNowEverywhere(t *testing.T) {
	for _, at := range someTimes() {
		for now := range someNows(at) {
			for _, k := range kinds(0, 2) {
				for _, c := range append(callsOf(2), addCall()) {
					p, _ := k.pair(t, at)
					p.does(t, c, now)
					p.does(t, c, now)
				}
			}
		}
	}
}

// TestOtherTimes (P24.1 to P24.3): a call whose now is none, or an earlier one, does at the list's time what it does, and a state is entered then.
func TestOtherTimes(t *testing.T) {
	for _, now := range []int64{leastInt, -1, 0, 1, 99, 100, lastTick + 1, greatestInt} {
		p := newPair(t)
		p.refused(t, upCall(1, 1), 100, api.ErrNone)
		n := p.add(t, now)
		wantReplica(t, p.list, Replica{N: n, State: Starting, Since: 100})
		p.refused(t, upCall(n, 0), 110, api.ErrArg)
		p.must(t, upCall(n, 3), now)
		wantReplica(t, p.list, Replica{n, Ready, 3, 0, 110})
		p.refused(t, lostCall(9), 120, api.ErrNone)
		p.must(t, lostCall(n), now)
		wantReplica(t, p.list, Replica{n, Down, 3, 0, 120})
		p.refused(t, removeCall(n, 0), 130, api.ErrState)
		p.must(t, drainCall(n), now)
		wantReplica(t, p.list, Replica{n, Draining, 3, 0, 130})
		p.must(t, bindCall(n, 1), 0)
		p.refused(t, drainCall(n), 139, api.ErrState)
		p.refused(t, removeCall(n, 10), now, api.ErrState)
		p.refused(t, lostCall(n), 140, api.ErrState)
		p.must(t, removeCall(n, 10), now)
		wantNow(t, p.list, 140)
	}
}

// TestSince (P24.3): a state is entered at the time of the call that has the replica enter it, and one that it is in already was entered ahead.
func TestSince(t *testing.T) {
	p := newPair(t)
	n := p.add(t, 5)
	for _, step := range []struct {
		call
		now   int64
		state int
		since int64
	}{
		{bindCall(1, 2), 0, Starting, 5}, {addCall(), 7, Starting, 5}, {upCall(n, 1), 10, Ready, 10}, {upCall(n, 1), 20, Ready, 10}, {upCall(n, 2), 30, Ready, 10}, {bindCall(n, 1), 0, Ready, 10},
		{lostCall(n), 40, Down, 40}, {lostCall(n), 50, Down, 40}, {bindCall(n, 1), 0, Down, 40}, {upCall(n, 2), 60, Ready, 60}, {upCall(n, 3), 61, Ready, 60},
		{lostCall(n), 70, Down, 70}, {upCall(n, 4), 80, Ready, 80}, {drainCall(n), 90, Draining, 90}, {upCall(n, 5), 100, Draining, 90}, {upCall(n, 5), 110, Draining, 90},
	} {
		p.must(t, step.call, step.now)
		if got, _ := p.list.Get(n); got.State != step.state || got.Since != step.since {
			t.Fatalf("behind %+v at %d it is %+v, want %d since %d", step.call, step.now, got, step.state, step.since)
		}
	}
}

// TestLive (P24.3): all are live but those that are Draining, be there none of these, some or nothing else.
func TestLive(t *testing.T) {
	p := newPair(t)
	wantLive(t, p.list, 0)
	p.adds(t, room)
	wantLive(t, p.list, room)
	for n := uint64(2); n <= 4; n++ {
		p.must(t, upCall(n, n), 1)
	}
	for n := uint64(4); n <= 6; n++ {
		p.must(t, lostCall(n), 2)
	}
	wantLive(t, p.list, room)
	for n := uint64(1); n <= room; n++ {
		p.must(t, drainCall(n), 3)
		wantLive(t, p.list, room-int(n))
	}
	for n := uint64(1); n <= room; n++ {
		p.must(t, removeCall(n, 0), 4)
		wantLive(t, p.list, 0)
	}
	p.adds(t, 2)
	wantLive(t, p.list, 2)
}

// TestAllRises (P24.3): all are told rising, however they came, and whichever went.
func TestAllRises(t *testing.T) {
	p := newPair(t)
	p.adds(t, room)
	for _, n := range []uint64{3, 8, 1} {
		p.must(t, drainCall(n), 1)
		p.must(t, removeCall(n, 0), 1)
	}
	wantAll(t, p.list, 2, 4, 5, 6, 7)
	p.adds(t, 3)
	wantAll(t, p.list, 2, 4, 5, 6, 7, 9, 10, 11)
	for range 200 {
		if !slices.Equal(p.list.All(), p.book.lines) {
			t.Fatalf("there are %v", p.list.All())
		}
	}
}

// TestWrittenOver (R4): what was told is the caller's: what is written into it turns nothing, and what is done behind it does not turn it.
func TestWrittenOver(t *testing.T) {
	p := newPair(t)
	p.adds(t, 3)
	p.must(t, upCall(2, 4), 1)
	all, other := p.list.All(), p.list.All()
	one, _ := p.list.Get(2)
	for place := range all {
		all[place] = Replica{N: 99, State: 9, Inc: 99, Bound: 99, Since: 99}
	}
	all = append(all[:0], all[1:]...)
	all = append(all, Replica{}, Replica{})
	one.State, one.Inc, one.Bound, one.N, one.Since = Draining, 9, 9, 9, 9
	p.check(t)
	if !slices.Equal(other, p.book.lines) {
		t.Errorf("another answer is %+v", other)
	}
	one, _ = p.list.Get(2)
	kept := slices.Clone(other)
	p.must(t, bindCall(2, 6), 5)
	p.must(t, lostCall(2), 5)
	p.must(t, upCall(1, 6), 5)
	p.must(t, drainCall(3), 5)
	p.must(t, removeCall(3, 0), 5)
	if !slices.Equal(other, kept) || one != kept[1] || len(all) != 4 {
		t.Errorf("what was told is %+v and %+v, want %+v", other, one, kept)
	}
}

// TestNilAndUnmade (P24.3): a nil list, and one that New did not give, has nothing, and takes nothing, whatever else is wrong.
func TestNilAndUnmade(t *testing.T) {
	var none *List
	for name, l := range map[string]*List{"nil": none, "unmade": {}, "new": new(List)} {
		for range 3 {
			for _, now := range []int64{leastInt, -1, 0, 1, 1000, lastTick, lastTick + 1, greatestInt} {
				for _, n := range []uint64{0, 1, 2, lastGiven, greatestNumber} {
					for _, c := range append(callsOf(n), addCall()) {
						if a := c.inList(l, now); a != (answer{err: api.ErrNil}) {
							t.Errorf("%s: %+v at %d is %+v", name, c, now, a)
						}
					}
					if r, err := l.Get(n); r != (Replica{}) || err != api.ErrNil {
						t.Errorf("%s: Get(%d) is %+v, %v", name, n, r, err)
					}
				}
				if len(l.All()) != 0 || l.Live() != 0 || l.Now() != 0 {
					t.Errorf("%s: %v, %d, %d", name, l.All(), l.Live(), l.Now())
				}
			}
		}
	}
}

// TestListsAlone (R3): what is done to one list plays no part in another one.
func TestListsAlone(t *testing.T) {
	a, b := newPair(t), newPair(t)
	a.adds(t, 5)
	b.check(t)
	b.adds(t, 2)
	b.must(t, drainCall(1), 9)
	b.must(t, removeCall(1, 0), 9)
	a.check(t)
	a.must(t, upCall(2, 3), 4)
	b.check(t)
	newPair(t).checkLast(t)
	a.checkLast(t)
	b.checkLast(t)
}
