package wheel

import (
	"math"
	"slices"
	"testing"

	"garboard/api"
)

// The greatest label.
const greatest = math.MaxUint64

// TestExample: the chapter's.
func TestExample(t *testing.T) {
	w := New()
	for n, after := range []int64{5, 3} {
		if got, err := w.Set(0, after, 1, 7); got != n+1 || err != api.OK {
			t.Fatalf("Set(0, %d) is %d, %v", after, got, err)
		}
	}
	want := []Timer{{N: 2, Kind: 1, Label: 7, At: 3}, {N: 1, Kind: 1, Label: 7, At: 5}}
	if got := w.Due(5); !slices.Equal(got, want) {
		t.Fatalf("Due(5) is %v, want %v", got, want)
	}
}

// TestNew (P20.1): a wheel without timers, at the time 0.
func TestNew(t *testing.T) {
	p := newPair(t)
	p.wantEmpty(t)
	p.wantDue(t, 0)
	p.wantStop(t, 1, api.ErrNone)
	p.wantStopAll(t, 0, 0)
	p.wantDue(t, lastTick)
	p.wantEmpty(t)
}

// TestNumbers (P20.1): they rise from 1 on, and none comes again, whatever was told, stopped or refused in between.
func TestNumbers(t *testing.T) {
	p := newPair(t)
	want := 0
	next := func() {
		t.Helper()
		want++
		if got := p.mustSet(t, 0, 5, 1); got != want {
			t.Fatalf("its number is %d, want %d", got, want)
		}
	}
	for range 3 {
		next()
		next()
		p.wantStop(t, want, api.OK)
		next()
		p.set(t, 0, -1, 1, 1)
		next()
		p.stopAll(t, 1)
		next()
		p.due(t, p.book.now+5)
		next()
		p.due(t, p.book.now+4)
	}
}

// someAfters are numbers that may be an after, with a few that may not.
var someAfters = []struct {
	after int64
	may   bool
}{
	{math.MinInt64, false}, {math.MinInt64 + 1, false}, {-lastTick - 1, false}, {-lastTick, false}, {-1 << 32, false}, {-2, false}, {-1, false},
	{0, true}, {1, true}, {2, true}, {1<<31 - 1, true}, {1 << 31, true}, {1 << 32, true}, {lastTick - 1, true}, {lastTick, true},
	{lastTick + 1, false}, {lastTick + 2, false}, {1 << 41, false}, {math.MaxInt64 - 1, false}, {math.MaxInt64, false},
}

// TestAfter (P20.1): an after below 0 or above MaxTicks is refused; else the timer is due that much later, but at MaxTicks at the latest, whatever the time.
func TestAfter(t *testing.T) {
	for _, now := range []int64{0, 1, 2, 1000, 1 << 32, lastTick / 2, lastTick - 2, lastTick - 1, lastTick} {
		for _, c := range someAfters {
			p := newPair(t)
			n, err := p.set(t, now, c.after, 3, 4)
			if !c.may {
				if n != 0 || err != api.ErrArg {
					t.Fatalf("Set(%d, %d) is %d, %v", now, c.after, n, err)
				}
				p.wantEmpty(t)
				continue
			}
			at := min(now+c.after, lastTick)
			if n != 1 || err != api.OK {
				t.Fatalf("Set(%d, %d) is %d, %v", now, c.after, n, err)
			}
			p.wantNext(t, at)
			if at > now {
				p.wantDue(t, at-1)
			}
			if got := p.wheel.Due(at); !slices.Equal(got, []Timer{{N: 1, Kind: 3, Label: 4, At: at}}) {
				t.Fatalf("Set(%d, %d): %v is due", now, c.after, got)
			}
			p.book.due(at)
			p.wantEmpty(t)
		}
	}
}

// TestBeyondMaxTicks (P20.1, P20.2): timers that would be due beyond MaxTicks are all due at it, by their numbers, however far beyond they were.
func TestBeyondMaxTicks(t *testing.T) {
	p := newPair(t)
	for n, after := range []int64{lastTick, lastTick - 1, 11, 10, 9, 1 << 32, 0} {
		if got := p.mustSet(t, lastTick-10, after, 1); got != n+1 {
			t.Fatalf("its number is %d", got)
		}
	}
	p.wantDue(t, lastTick-10, 7)
	p.wantDue(t, lastTick-1, 5)
	p.wantNext(t, lastTick)
	p.wantDue(t, lastTick, 1, 2, 3, 4, 6)
	p.mustSet(t, 0, lastTick, 1)
	p.mustSet(t, lastTick, 0, 1)
	p.mustSet(t, math.MaxInt64, 1, 1)
	p.wantDue(t, 0, 8, 9, 10)
	p.wantEmpty(t)
}

// callsWithNow are the calls that have a now: those that are refused, too.
func callsWithNow() map[string]func(*Wheel, int64) {
	return map[string]func(*Wheel, int64){
		"Set":               func(w *Wheel, now int64) { w.Set(now, 7, 1, 2) },
		"Set of an after":   func(w *Wheel, now int64) { w.Set(now, -1, 1, 2) },
		"Set of a long one": func(w *Wheel, now int64) { w.Set(now, lastTick+1, 1, 2) },
		"Due":               func(w *Wheel, now int64) { w.Due(now) },
	}
}

// TestTimes (P20.1, P20.2): each call goes on to its now, unless that is none or an earlier one; Now tells the time behind it.
func TestTimes(t *testing.T) {
	for name, call := range callsWithNow() {
		w := New()
		for _, c := range []struct{ now, want int64 }{
			{-1, 0}, {math.MinInt64, 0}, {lastTick + 1, 0}, {math.MaxInt64, 0}, {0, 0},
			{5, 5}, {5, 5}, {4, 5}, {0, 5}, {-1, 5}, {-5, 5}, {-6, 5}, {lastTick + 1, 5}, {1 << 41, 5}, {6, 6}, {1 << 32, 1 << 32},
			{7, 1 << 32}, {lastTick - 1, lastTick - 1}, {math.MaxInt64, lastTick - 1}, {math.MinInt64, lastTick - 1}, {lastTick, lastTick},
			{lastTick + 1, lastTick}, {lastTick - 1, lastTick}, {0, lastTick}, {-1, lastTick}, {lastTick, lastTick},
		} {
			call(w, c.now)
			if got := w.Now(); got != c.want {
				t.Fatalf("%s(%d): Now is %d, want %d", name, c.now, got, c.want)
			}
		}
	}
}

// TestTimeOfFull (R7): the time goes on with a Set of a wheel that is full, too; it takes nothing else.
func TestTimeOfFull(t *testing.T) {
	p := full(t)
	if n, err := p.set(t, 2, 5, 1, 1); n != 0 || err != api.ErrMany || p.wheel.Now() != 2 {
		t.Fatalf("Set is %d, %v, at %d", n, err, p.wheel.Now())
	}
	p.wantDue(t, 0, 1, 2, 3)
}

// TestOtherTimes (P20.1, P20.2): a call whose now is none, or an earlier one, does at the wheel's time what it does.
func TestOtherTimes(t *testing.T) {
	for _, now := range []int64{math.MinInt64, -1, 0, 1, 99, 100, lastTick + 1, math.MaxInt64} {
		p := newPair(t)
		p.mustSet(t, 95, 5, 1)  // at 100
		p.mustSet(t, 100, 1, 1) // at 101
		p.mustSet(t, now, 0, 1) // at 100
		p.mustSet(t, now, 10, 1)
		p.wantNext(t, 100)
		p.wantDue(t, now, 1, 3)
		p.wantDue(t, now)
		p.wantDue(t, 109, 2)
		p.wantNext(t, 110)
		p.wantDue(t, 110, 4)
		if p.wheel.Now() != 110 {
			t.Fatalf("Now is %d", p.wheel.Now())
		}
	}
}

// TestStandingStill (P20.2): timers that are set at a time at which those of it were told already are told by the next call, at that time still.
func TestStandingStill(t *testing.T) {
	p := newPair(t)
	for n := 1; n < 20; n += 2 {
		p.mustSet(t, 9, 0, 1)
		p.mustSet(t, 9, 0, 2)
		p.wantNext(t, 9)
		p.wantDue(t, 9, n, n+1)
		p.wantDue(t, 9)
		p.wantEmpty(t)
	}
}

// TestOneTime (P20.2): of one time they are told by their numbers, though they were set at many times, in between others.
func TestOneTime(t *testing.T) {
	p := newPair(t)
	var at100, ahead, behind []int
	for n := range int64(100) {
		at100 = append(at100, p.mustSet(t, n, 100-n, uint64(n)))
		if n%7 == 0 {
			behind = append(behind, p.mustSet(t, n, 101-n, 1))
		}
		if n%5 == 0 {
			ahead = append(ahead, p.mustSet(t, n, 99-n, 1))
		}
	}
	p.wantNext(t, 99)
	p.wantDue(t, 99, ahead...)
	p.wantNext(t, 100)
	p.wantDue(t, 100, at100...)
	p.wantDue(t, 200, behind...)
	p.wantEmpty(t)
}

// TestFullOfOneTime (P20.2): so are as many as there may be, with every third one stopped.
func TestFullOfOneTime(t *testing.T) {
	p := newPair(t)
	var want []int
	for n := 1; n <= room; n++ {
		p.mustSet(t, int64(n), int64(room-n+1), uint64(n%2))
		if n%3 != 0 {
			want = append(want, n)
		}
	}
	for n := 3; n <= room; n += 3 {
		p.wantStop(t, n, api.OK)
	}
	p.checkKept(t)
	p.wantDue(t, room)
	p.wantDue(t, room+1, want...)
	p.wantEmpty(t)
}

// TestRoom (P20.1): there are 4096 at most: one more is refused, and takes no number; each place that comes free is one for another timer.
func TestRoom(t *testing.T) {
	for _, c := range []struct {
		name string
		free func(p pair) int
	}{
		{"a stopped one, the first", func(p pair) int { p.wantStop(t, 1, api.OK); return 1 }},
		{"a stopped one, the last", func(p pair) int { p.wantStop(t, room, api.OK); return 1 }},
		{"a stopped one between", func(p pair) int { p.wantStop(t, 2000, api.OK); return 1 }},
		{"a told one", func(p pair) int { p.wantDue(t, 0, 1); return 1 }},
		{"three told ones", func(p pair) int { p.wantDue(t, 2, 1, 2, 3); return 3 }},
		{"all of a label", func(p pair) int { return p.stopAll(t, 1) }},
		{"all that are told", func(p pair) int { return len(p.due(t, lastTick)) }},
		{"none", func(p pair) int { p.wantStop(t, room+1, api.ErrNone); return p.stopAll(t, 9) }},
	} {
		p := full(t)
		if n, err := p.set(t, 0, 5, 1, 1); n != 0 || err != api.ErrMany || p.wheel.Len() != room {
			t.Fatalf("%s: the timer 4097 is %d, %v", c.name, n, err)
		}
		places := c.free(p)
		if got := p.wheel.Len(); got != room-places {
			t.Fatalf("%s: there are %d", c.name, got)
		}
		for n := range places {
			if got := p.mustSet(t, 0, int64(n), 7); got != room+1+n {
				t.Fatalf("%s: the number %d is given", c.name, got)
			}
		}
		if n, err := p.set(t, 0, 5, 1, 1); n != 0 || err != api.ErrMany {
			t.Fatalf("%s: behind as many as there may be: %d, %v", c.name, n, err)
		}
		p.checkKept(t)
	}
}

// TestRoomToTheLast (P20.1): 4095 timers leave room for one.
func TestRoomToTheLast(t *testing.T) {
	p := newPair(t)
	for range 4095 {
		p.mustSet(t, 0, 3, 1)
	}
	if got := p.mustSet(t, 0, 3, 1); got != 4096 || p.wheel.Len() != 4096 {
		t.Fatalf("the last one is %d, of %d", got, p.wheel.Len())
	}
	for range 3 {
		if n, err := p.set(t, 0, 3, 1, 1); n != 0 || err != api.ErrMany {
			t.Fatalf("behind it: %d, %v", n, err)
		}
	}
}

// TestErrArgFirst (R1): of a wheel that is full, and of one whose last number was given, an after that may not be is told first.
func TestErrArgFirst(t *testing.T) {
	last := newPair(t)
	last.wheel.last, last.book.last = lastGiven, lastGiven
	for _, p := range []pair{full(t), last} {
		for _, c := range someAfters {
			want := api.ErrMany
			if !c.may {
				want = api.ErrArg
			}
			if n, err := p.set(t, 0, c.after, 1, 1); n != 0 || err != want {
				t.Fatalf("Set(0, %d) is %d, %v, want %v", c.after, n, err, want)
			}
		}
	}
}

// TestLastNumber (P20.1): behind the number 2^31 - 1 none is given, though there is room; the timers that are there stay what they are.
func TestLastNumber(t *testing.T) {
	p := newPair(t)
	p.mustSet(t, 0, 9, 1)
	p.wheel.last, p.book.last = lastGiven-2, lastGiven-2
	for _, want := range []int{lastGiven - 1, lastGiven} {
		if got := p.mustSet(t, 0, 5, 1); got != want {
			t.Fatalf("its number is %d, want %d", got, want)
		}
	}
	for range 3 {
		if n, err := p.set(t, 0, 5, 1, 1); n != 0 || err != api.ErrMany {
			t.Fatalf("behind the last number: %d, %v", n, err)
		}
	}
	p.wantStop(t, lastGiven-1, api.OK)
	p.wantDue(t, 9, lastGiven, 1)
	p.wantEmpty(t)
	if n, err := p.set(t, 9, 5, 1, 1); n != 0 || err != api.ErrMany {
		t.Fatalf("of an empty wheel: %d, %v", n, err)
	}
}

// TestStopNone (P20.1): a number that was never given, was told, or was stopped is none.
func TestStopNone(t *testing.T) {
	p := newPair(t)
	none := []int{math.MinInt, -1 << 32, -5, -1, 0, 6, 7, 1<<31 - 1, 1 << 31, 1<<32 + 1, 1<<32 + 5, math.MaxInt}
	refuse := func() {
		t.Helper()
		for _, n := range none {
			p.wantStop(t, n, api.ErrNone)
		}
		p.checkKept(t)
	}
	for n := range int64(5) {
		p.mustSet(t, 0, 10+n, uint64(n))
	}
	refuse()
	p.wantDue(t, 11, 1, 2)
	none = append(none, 1, 2)
	refuse()
	p.wantStop(t, 4, api.OK)
	none = append(none, 4)
	refuse()
	p.wantStopAll(t, 2, 1)
	none = append(none, 3)
	refuse()
	p.wantDue(t, lastTick, 5)
	none = append(none, 5)
	refuse()
	p.wantEmpty(t)
}

// TestStop (P20.1): of timers in all orders of their times the first one, the last one and each between are stopped, and the others are told.
func TestStop(t *testing.T) {
	for _, afters := range [][]int64{{0}, {5, 5}, {1, 2}, {2, 1}, {1, 2, 3, 4, 5, 6, 7}, {7, 6, 5, 4, 3, 2, 1}, {4, 2, 6, 1, 3, 5, 7}, {3, 3, 1, 3, 9, 1, 3, 9, 1}, {1, 9, 2, 9, 9, 3, 4, 9, 9, 9, 9, 5, 6}} {
		for first := 1; first <= len(afters); first++ {
			for second := first; second <= len(afters); second++ {
				p := newPair(t)
				for _, after := range afters {
					p.mustSet(t, 0, after, 1)
				}
				p.wantStop(t, first, api.OK)
				p.wantStop(t, first, api.ErrNone)
				if second != first {
					p.wantStop(t, second, api.OK)
				}
				p.checkKept(t)
				for now := range int64(10) {
					p.due(t, now)
				}
				p.wantEmpty(t)
			}
		}
	}
}

// TestStopAll (P20.1): all with a label are stopped, and none beside: none, one, some and all, also of the least and the greatest label.
func TestStopAll(t *testing.T) {
	const some, one, none = 5, 6, 7
	for _, c := range []struct {
		label uint64
		want  int
	}{{none, 0}, {one, 1}, {some, 4}, {0, 3}, {greatest, 2}, {1 << 63, 1}, {1<<63 - 1, 0}, {1, 0}, {1<<32 + some, 0}, {greatest - 1, 0}} {
		p := newPair(t)
		for n, label := range []uint64{some, 0, one, greatest, some, some, 0, 1 << 63, greatest, some, 0} {
			p.mustSet(t, 0, int64(20-n%4), label)
		}
		p.wantStopAll(t, c.label, c.want)
		p.wantStopAll(t, c.label, 0)
		p.checkKept(t)
		if got := len(p.due(t, lastTick)); got != 11-c.want {
			t.Fatalf("behind StopAll(%d) %d are told", c.label, got)
		}
		p.wantStopAll(t, c.label, 0)
	}
	for _, label := range []uint64{0, 1, 1 << 32, 1 << 63, greatest} {
		for _, count := range []int{1, 2, 300, room} {
			p := newPair(t)
			for n := range count {
				p.mustSet(t, 0, int64(n%50), label)
			}
			p.wantStopAll(t, label, count)
			p.wantEmpty(t)
			p.checkKept(t)
			p.wantDue(t, lastTick)
			p.wantStop(t, 1, api.ErrNone)
		}
	}
}

// TestStopAllTold (P20.1): those that were told, or stopped, are not counted; those that are due, but not told, are.
func TestStopAllTold(t *testing.T) {
	p := newPair(t)
	for n := range int64(6) {
		p.mustSet(t, 0, n, 8)
	}
	p.wantDue(t, 1, 1, 2)
	p.wantStop(t, 4, api.OK)
	p.mustSet(t, 3, 2, 9) // the timer 3 is due, and was not told
	p.wantStopAll(t, 8, 3)
	p.wantDue(t, 5, 7)
}

// TestDue (P20.2): those are told whose time is there, and none ahead of it; one time after the other, or several at once.
func TestDue(t *testing.T) {
	p := newPair(t)
	for _, now := range []int64{math.MinInt64, -1, 0, 1, 5} {
		p.wantDue(t, now)
	}
	for _, after := range []int64{15, 5, 25, 5, 15} {
		p.mustSet(t, 5, after, 1) // at 20, 10, 30, 10, 20
	}
	p.wantDue(t, 5)
	p.wantDue(t, 9)
	p.wantNext(t, 10)
	p.wantDue(t, 10, 2, 4)
	p.wantDue(t, 10)
	p.wantNext(t, 20)
	p.wantDue(t, 19)
	p.wantDue(t, 25, 1, 5)
	p.wantNext(t, 30)
	p.wantDue(t, 29)
	p.wantDue(t, 31, 3)
	p.wantEmpty(t)
	p.wantDue(t, 32)
	p.mustSet(t, 32, 3, 1)
	p.mustSet(t, 32, 1, 1)
	p.mustSet(t, 32, 2, 1)
	p.wantDue(t, 1<<35, 7, 8, 6)
	p.wantDue(t, lastTick)
}

// TestDueFields (P20.2): what is told of a timer is what it was set with: kinds of every sign, labels of every size.
func TestDueFields(t *testing.T) {
	kinds := []int{math.MinInt, -1 << 32, -2, -1, 0, 1, 2, 1 << 32, math.MaxInt}
	labels := []uint64{0, 1, 1<<32 - 1, 1 << 32, 1<<63 - 1, 1 << 63, greatest - 1, greatest}
	w := New()
	var want []Timer
	for i, kind := range kinds {
		for j, label := range labels {
			n, err := w.Set(int64(i), int64(20-i), kind, label)
			if err != api.OK || n != len(labels)*i+j+1 {
				t.Fatalf("Set of the kind %d and the label %d is %d, %v", kind, label, n, err)
			}
			want = append(want, Timer{N: n, Kind: kind, Label: label, At: 20})
		}
	}
	if got := w.Due(20); !slices.Equal(got, want) {
		t.Fatalf("Due is\n%v, want\n%v", got, want)
	}
}

// TestNext (P20.2): it tells of the one that is due first, also behind a Stop of that one, and of one whose time has passed.
func TestNext(t *testing.T) {
	p := newPair(t)
	p.wantEmpty(t)
	p.mustSet(t, 0, 30, 1)
	p.wantNext(t, 30)
	p.mustSet(t, 0, 10, 2)
	p.wantNext(t, 10)
	p.mustSet(t, 0, 20, 1)
	p.mustSet(t, 0, 10, 3)
	p.wantNext(t, 10)
	p.wantStop(t, 2, api.OK)
	p.wantNext(t, 10)
	p.wantStop(t, 4, api.OK)
	p.wantNext(t, 20)
	p.wantStopAll(t, 1, 2)
	p.wantEmpty(t)
	p.mustSet(t, 0, 0, 1)
	p.wantNext(t, 0)
	p.mustSet(t, 50, 5, 1)
	p.wantNext(t, 0)
	p.wantDue(t, 50, 5)
	p.wantNext(t, 55)
	p.wantStop(t, 6, api.OK)
	p.wantEmpty(t)
}

// TestNobodyMade (P20.2): a nil wheel, and one that New did not give, has nothing, and takes nothing.
func TestNobodyMade(t *testing.T) {
	var zero Wheel
	for name, w := range map[string]*Wheel{"nil": nil, "new": new(Wheel), "zero": &zero} {
		for range 2 {
			for _, now := range []int64{math.MinInt64, -1, 0, 5, lastTick, lastTick + 1, math.MaxInt64} {
				for _, c := range someAfters {
					if n, err := w.Set(now, c.after, 1, 2); n != 0 || err != api.ErrNil {
						t.Errorf("%s: Set(%d, %d) is %d, %v", name, now, c.after, n, err)
					}
				}
				if got := w.Due(now); len(got) != 0 {
					t.Errorf("%s: Due is %v", name, got)
				}
			}
			for _, n := range []int{math.MinInt, -1, 0, 1, 2, math.MaxInt} {
				if err := w.Stop(n); err != api.ErrNil {
					t.Errorf("%s: Stop is %v", name, err)
				}
			}
			for _, label := range []uint64{0, 2, greatest} {
				if got := w.StopAll(label); got != 0 {
					t.Errorf("%s: StopAll is %d", name, got)
				}
			}
			if at, ok := w.Next(); at != 0 || ok || w.Len() != 0 || w.Now() != 0 {
				t.Errorf("%s: Next is %d, %v, Len %d, Now %d", name, at, ok, w.Len(), w.Now())
			}
		}
	}
}

// TestDueIsTheCallers (R4): what is written into a list that was told turns nothing, and it stays as it is whatever is called later.
func TestDueIsTheCallers(t *testing.T) {
	p := newPair(t)
	for n := range int64(12) {
		p.mustSet(t, 0, n, uint64(n%3))
	}
	first := p.wheel.Due(3)
	kept := slices.Clone(first)
	p.book.due(3)
	p.checkKept(t)
	other := p.wheel.Due(5)
	p.book.due(5)
	for i := range other {
		other[i] = Timer{N: 9, Kind: 9, Label: 9, At: 0}
	}
	_ = append(other[:1], Timer{N: 8}, Timer{N: 8}, Timer{N: 8}, Timer{N: 8})
	p.checkKept(t)
	p.check(t)
	for range 20 {
		p.mustSet(t, 0, 1, 1)
	}
	p.wantStop(t, 10, api.OK)
	p.stopAll(t, 1)
	p.due(t, 100)
	p.mustSet(t, 100, 1, 1)
	p.due(t, 200)
	if !slices.Equal(first, kept) {
		t.Fatalf("a list that was told has become %v, from %v", first, kept)
	}
	if !slices.Equal(numbers(first), []int{1, 2, 3, 4}) {
		t.Fatalf("Due(3) is %v", first)
	}
}

// TestWheelsAlone (R3): what is done to one wheel plays no part in another.
func TestWheelsAlone(t *testing.T) {
	a, b := newPair(t), newPair(t)
	a.mustSet(t, 7, 1, 1)
	a.mustSet(t, 7, 2, 1)
	b.check(t)
	b.wantStop(t, 1, api.ErrNone)
	if got := b.mustSet(t, 0, 5, 1); got != 1 {
		t.Fatalf("its number is %d", got)
	}
	a.wantStopAll(t, 1, 2)
	b.checkKept(t)
	b.wantDue(t, 5, 1)
	a.check(t)
}
