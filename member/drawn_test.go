package member

import (
	"cmp"
	"slices"
	"testing"

	"garboard/api"
	"garboard/rand"
)

// setting tells of which calls a test draws more, how far the time goes on at most from call to call, and by how many more streams are bound at most.
type setting struct {
	adds, ups, losts, drains, removes, binds int
	ahead                                    int64
	by                                       int
	calls                                    int
}

// someSettings are lists that are empty, full and between, whose replicas live for short and long, with few and many bound to them.
func someSettings() []setting {
	return []setting{
		{1, 1, 1, 1, 1, 1, 3, 2, 800}, {4, 1, 1, 1, 1, 1, 3, 2, 800}, {9, 4, 4, 1, 1, 4, 3, 2, 800}, {1, 1, 1, 4, 4, 1, 3, 2, 800},
		{2, 6, 2, 1, 2, 2, 1, 1, 800}, {2, 6, 6, 1, 1, 1, 1, 1, 800}, {3, 3, 3, 3, 6, 9, 2, 1, 1000}, {3, 1, 1, 3, 3, 9, 10, 1000, 1000},
		{3, 2, 1, 3, 3, 9, 10, mostOfOne, 1000}, {9, 1, 1, 9, 9, 2, 2, 3, 1000}, {2, 9, 1, 2, 3, 9, 5, 4, 1000}, {2, 4, 4, 2, 4, 4, 1 << 30, 3, 1000},
		{2, 4, 4, 2, 4, 4, 1 << 37, 3, 600}, {6, 2, 2, 6, 6, 6, 0, 2, 600}, {2, 2, 9, 2, 2, 2, 4, 2, 800}, {2, 9, 9, 1, 1, 4, 4, 1 << 19, 1000},
		{9, 2, 2, 4, 1, 3, 2, 2, 600}, {3, 3, 3, 2, 6, 9, 7, mostOfOne / 3, 1000}, {1, 2, 2, 1, 9, 4, 6, 2, 800}, {5, 5, 1, 4, 6, 5, 20, 2, 1000},
	}
}

// draws are what a test's calls are made of.
type draws struct {
	*rand.Source
	setting
}

// newDraws are draws that hang on a label and a setting's number.
func newDraws(label, n int, s setting) *draws {
	return &draws{Source: rand.New(rand.Derive(24, uint64(label), uint64(n))), setting: s}
}

// below is a number below another one.
func (d *draws) below(n int) int { return int(d.Next() % uint64(n)) }

// upTo is a number from 0 to another one.
func (d *draws) upTo(n int64) int64 { return int64(d.Next() % uint64(n+1)) }

// time is a now of a list that is known: seldom one that is none or an earlier one.
func (d *draws) time(now int64) int64 {
	switch d.below(16) {
	case 0:
		return []int64{leastInt, -1, lastTick + 1, greatestInt}[d.below(4)]
	case 1:
		return now - 1 - d.upTo(4)
	case 2, 3, 4, 5:
		return now
	}
	return now + d.upTo(d.ahead)
}

// number is mostly one of those that are there.
func (d *draws) number(l *List) uint64 {
	all := l.All()
	if len(all) == 0 || d.below(12) == 0 {
		last := uint64(0)
		if len(all) > 0 {
			last = all[len(all)-1].N
		}
		return []uint64{0, 1, last, last + 1, last - 1, last + 9, greatestNumber, d.Next()}[d.below(8)]
	}
	return all[d.below(len(all))].N
}

// inc is an incarnation for one: mostly the known one or the next one; greater ones seldom, as none is lesser behind them.
func (d *draws) inc(r Replica) uint64 {
	switch d.below(24) {
	case 0, 1:
		return 0
	case 2, 3, 4:
		return r.Inc - 1
	case 5:
		return r.Inc / 2
	case 6:
		return r.Inc + 2 + d.Next()%1000
	case 7:
		return max(r.Inc, d.Next()>>d.below(64))
	case 8:
		return []uint64{1, 1 << 63, greatestNumber}[d.below(3)]
	case 9, 10, 11, 12, 13, 14, 15:
		return r.Inc + 1
	}
	return r.Inc
}

// wait is one for a replica at a time: mostly one of about as long as it has been in its state.
func (d *draws) wait(r Replica, now int64) int64 {
	switch d.below(16) {
	case 0:
		return []int64{leastInt, -1, 0, greatestInt, lastTick}[d.below(5)]
	case 1:
		return d.upTo(9)
	}
	return max(now-r.Since, 0) - 1 + d.upTo(3)
}

// more is by how many more are bound to one: mostly few, up to just its bounds, or one beyond them.
func (d *draws) more(r Replica) int {
	switch d.below(12) {
	case 0:
		return -r.Bound
	case 1:
		return -r.Bound - 1
	case 2:
		return mostOfOne - r.Bound + d.below(2)
	case 3:
		return []int{0, leastInt, greatestInt, -mostOfOne, mostOfOne}[d.below(5)]
	case 4, 5, 6, 7:
		return -1 - d.below(d.by)
	}
	return 1 + d.below(d.by)
}

// which is which call is drawn.
func (d *draws) which() string {
	left := d.below(d.adds + d.ups + d.losts + d.drains + d.removes + d.binds)
	for _, c := range []struct {
		name string
		many int
	}{{"Add", d.adds}, {"Up", d.ups}, {"Lost", d.losts}, {"Drain", d.drains}, {"Remove", d.removes}} {
		if left -= c.many; left < 0 {
			return c.name
		}
	}
	return "Bind"
}

// call is a call of a list, and its now.
func (d *draws) call(l *List) (call, int64) {
	n, now := d.number(l), d.time(l.Now())
	r, _ := l.Get(n)
	switch d.which() {
	case "Add":
		return addCall(), now
	case "Up":
		return upCall(n, d.inc(r)), now
	case "Lost":
		return lostCall(n), now
	case "Drain":
		return drainCall(n), now
	case "Remove":
		return removeCall(n, d.wait(r, max(now, l.Now()))), now
	}
	return bindCall(n, d.more(r)), now
}

// met is what a call meets, and what comes of it.
type met struct {
	call  string
	state int // 0 of none
	anew  bool
	err   api.Errno
}

// someMet are all that calls meet: one that is Starting has no known incarnation, with which it would be Ready.
func someMet() []met {
	all := []met{{"Add", 0, false, api.OK}, {"Add", 0, false, api.ErrMany}, {"Remove", Draining, false, api.OK}, {"Lost", Draining, false, api.ErrState}, {"Drain", Draining, false, api.ErrState}}
	for _, name := range []string{"Up", "Lost", "Drain", "Remove", "Bind"} {
		all = append(all, met{name, 0, false, api.ErrNone})
	}
	for _, state := range []int{Starting, Ready, Draining, Down} {
		all = append(all, met{"Up", state, false, api.OK}, met{"Up", state, false, api.ErrArg}, met{"Bind", state, false, api.OK}, met{"Bind", state, false, api.ErrArg}, met{"Remove", state, false, api.ErrState})
		if state != Starting {
			all = append(all, met{"Up", state, true, api.OK})
		}
		if state != Draining {
			all = append(all, met{"Lost", state, false, api.OK}, met{"Drain", state, false, api.OK})
		}
	}
	return all
}

// TestDrawnCalls (P24.1 to P24.6): calls in drawn orders and at drawn times answer as the chapter's words say, and leave behind what they say.
func TestDrawnCalls(t *testing.T) {
	count := map[met]int{}
	for n, s := range someSettings() {
		for round := range 4 {
			p, d := newPair(t), newDraws(round, n, s)
			for range s.calls {
				c, now := d.call(p.list)
				m := met{call: c.name}
				if r := p.book.line(c.n); r != nil {
					m.state = r.State
				}
				a := p.does(t, c, now)
				m.anew, m.err = a.anew, a.err
				count[m]++
			}
			p.checkLast(t)
		}
	}
	for _, m := range someMet() {
		if count[m] < 40 {
			t.Errorf("%+v was met %d times", m, count[m])
		}
	}
	if len(count) != len(someMet()) {
		t.Errorf("met was %+v", count)
	}
}

// TestDrawnCallsAlone (P24.1 to P24.3): so they do where nothing is asked between them.
func TestDrawnCallsAlone(t *testing.T) {
	for n, s := range someSettings() {
		for round := range 20 {
			// The calls are drawn from a list of its own, to which the same is done.
			p, from, d := newPair(t), newList(t), newDraws(10+round, n, s)
			for range d.below(s.calls) {
				c, now := d.call(from)
				c.inList(from, now)
				p.asks(t, c, now)
			}
			p.check(t)
			p.checkLast(t)
		}
	}
}

// TestDrawnLastTicks (P24.1 to P24.3): so do calls up to the last tick and at it.
func TestDrawnLastTicks(t *testing.T) {
	for n, s := range someSettings() {
		for round := range 10 {
			p, d := newPair(t), newDraws(40+round, n, s)
			p.does(t, lostCall(0), max(lastTick-d.upTo(20*s.ahead), 0))
			for range 60 {
				c, now := d.call(p.list)
				p.does(t, c, now)
			}
			p.does(t, lostCall(0), lastTick)
			for range 60 {
				c, now := d.call(p.list)
				p.does(t, c, now)
			}
			wantNow(t, p.list, lastTick)
			p.checkLast(t)
		}
	}
}

// TestDrawnLastNumbers (P24.1 to P24.3): so do calls up to the last number that may be given, and behind it.
func TestDrawnLastNumbers(t *testing.T) {
	ends := 0
	for n, s := range someSettings() {
		for round := range 10 {
			d := newDraws(60+round, n, s)
			p := lateNumbers(t, lastGiven-uint64(d.below(20)))
			for range 300 {
				c, now := d.call(p.list)
				p.does(t, c, now)
			}
			if p.book.last == lastGiven {
				ends++
			}
			p.checkLast(t)
		}
	}
	if ends < 50 {
		t.Errorf("only %d met the last number", ends)
	}
}

// step is a call of a list, with what all answered ahead of it and behind it.
type step struct {
	call
	answer
	first         bool // of its list
	ahead, behind []Replica
	now           int64 // behind it
	liveAhead     int
	liveBehind    int
}

// alone does drawn calls to lists, and has each step looked at; no book plays a part.
func alone(t *testing.T, label int, look func(step)) {
	t.Helper()
	for n, s := range someSettings() {
		for round := range 6 {
			l, d := newList(t), newDraws(label+round, n, s)
			for number := range s.calls {
				c, now := d.call(l)
				st := step{call: c, first: number == 0, ahead: l.All(), liveAhead: l.Live()}
				st.answer = c.inList(l, now)
				st.behind, st.now, st.liveBehind = l.All(), l.Now(), l.Live()
				look(st)
			}
		}
	}
}

// find is the one of a number, out of all, or none with the number 0.
func find(all []Replica, n uint64) Replica {
	for _, r := range all {
		if r.N == n {
			return r
		}
	}
	return Replica{}
}

// mayGo are the states that go to others.
func mayGo() map[int][]int {
	return map[int][]int{0: {Starting}, Starting: {Ready, Down, Draining}, Ready: {Down, Draining}, Down: {Ready, Draining}}
}

// TestStates (P24.4): states go as the promise says, none begins otherwise than Starting, and each way is met; told by the calls alone.
func TestStates(t *testing.T) {
	gone := map[[2]int]int{}
	alone(t, 100, func(st step) {
		for _, r := range st.behind {
			was := find(st.ahead, r.N)
			if r.State == was.State {
				continue
			}
			if !slices.Contains(mayGo()[was.State], r.State) {
				t.Fatalf("behind %+v %+v is %+v", st.call, was, r)
			}
			if r.Since != st.now {
				t.Fatalf("behind %+v at %d %+v is %+v", st.call, st.now, was, r)
			}
			gone[[2]int{was.State, r.State}]++
		}
	})
	for from, all := range mayGo() {
		for _, to := range all {
			if gone[[2]int{from, to}] < 100 {
				t.Errorf("from %d to %d %d went", from, to, gone[[2]int{from, to}])
			}
		}
	}
}

// TestGoes (P24.5): none goes but by a Remove of it, from Draining, and, if something is bound to it, once its wait is over; told by the calls alone.
func TestGoes(t *testing.T) {
	free, bound, waited := 0, 0, 0
	alone(t, 200, func(st step) {
		for _, was := range st.ahead {
			if find(st.behind, was.N).N == was.N {
				continue
			}
			if st.name != "Remove" || st.n() != was.N || st.err != api.OK || was.State != Draining {
				t.Fatalf("behind %+v, that answers %+v, %+v went", st.call, st.answer, was)
			}
			if was.Bound == 0 {
				free++
				continue
			}
			if st.now-was.Since < st.wait {
				t.Fatalf("behind %+v at %d %+v went", st.call, st.now, was)
			}
			bound++
			if st.wait > 0 {
				waited++
			}
		}
	})
	if free < 1000 || bound < 1000 || waited < 500 {
		t.Errorf("%d went with nothing bound, %d with something, %d of them behind a wait", free, bound, waited)
	}
}

// n is the number that a step's call has.
func (st step) n() uint64 { return st.call.n }

// TestIncarnations (P24.6): incarnations rise, and one that is known is known; told by the calls alone.
func TestIncarnations(t *testing.T) {
	rose, lesser := 0, 0
	alone(t, 300, func(st step) {
		for _, was := range st.ahead {
			r := find(st.behind, was.N)
			if r.N == 0 {
				continue
			}
			if r.Inc < was.Inc || r.Inc != was.Inc && (st.name != "Up" || st.n() != r.N || st.inc != r.Inc) {
				t.Fatalf("behind %+v %+v is %+v", st.call, was, r)
			}
			if r.Inc > was.Inc {
				rose++
			}
		}
		was := find(st.ahead, st.n())
		if st.name != "Up" || was.N == 0 {
			return
		}
		if (st.err == api.ErrArg) != (st.inc == 0 || st.inc < was.Inc) {
			t.Fatalf("%+v of %+v is %+v", st.call, was, st.answer)
		}
		if st.err == api.ErrArg {
			lesser++
		}
	})
	if rose < 1000 || lesser < 1000 {
		t.Errorf("%d rose, %d were refused", rose, lesser)
	}
}

// TestRefusedTurnsNothing (P24.6): a call that is refused turns nothing, and answers nothing else; told by the calls alone.
func TestRefusedTurnsNothing(t *testing.T) {
	refused := map[string]int{}
	alone(t, 400, func(st step) {
		if st.err == api.OK {
			return
		}
		refused[st.name]++
		if st.answer.n != 0 || st.anew || !slices.Equal(st.ahead, st.behind) || st.liveAhead != st.liveBehind {
			t.Fatalf("%+v, that answers %+v, turned %+v into %+v", st.call, st.answer, st.ahead, st.behind)
		}
	})
	for _, name := range []string{"Add", "Up", "Lost", "Drain", "Remove", "Bind"} {
		if refused[name] < 1000 {
			t.Errorf("%s was refused %d times", name, refused[name])
		}
	}
}

// TestRefusedTakesNoNumber (P24.6): two lists, to one of which what is refused was not done at all, answer the same but for the time; told by the calls alone.
func TestRefusedTakesNoNumber(t *testing.T) {
	refused := 0
	for n, s := range someSettings() {
		l, other, d := newList(t), newList(t), newDraws(500, n, s)
		for range s.calls {
			c, now := d.call(l)
			a := c.inList(l, now)
			if a.err != api.OK {
				refused++
				continue
			}
			if b := c.inList(other, l.Now()); a != b {
				t.Fatalf("%+v at %d is %+v and %+v", c, now, a, b)
			}
			if !slices.Equal(l.All(), other.All()) || l.Live() != other.Live() {
				t.Fatalf("behind %+v at %d there are %+v and %+v", c, now, l.All(), other.All())
			}
		}
	}
	if refused < 2000 {
		t.Errorf("only %d were refused", refused)
	}
}

// TestNumbersRise (P24.1): numbers are given from 1 on, each one more than the one ahead, there are 8 at most, and all are told rising; told by the calls alone.
func TestNumbersRise(t *testing.T) {
	last := uint64(0)
	alone(t, 600, func(st step) {
		if st.first {
			last = 0
		}
		if st.answer.n > 0 {
			if st.answer.n != last+1 {
				t.Fatalf("behind %d the number is %d", last, st.answer.n)
			}
			last = st.answer.n
		}
		if len(st.behind) > room || !slices.IsSortedFunc(st.behind, func(x, y Replica) int { return cmp.Compare(x.N, y.N) }) {
			t.Fatalf("there are %+v", st.behind)
		}
		for _, r := range st.behind {
			if r.N > last || find(st.ahead, r.N).N == 0 && r.N != st.answer.n || r.Bound < 0 || r.Bound > mostOfOne || r.Since < 0 || r.Since > st.now {
				t.Fatalf("behind %+v at %d %+v is there, the last one was %d", st.call, st.now, r, last)
			}
		}
	})
}

// TestSameCallsDoTheSame (R3): two lists to which the same is done answer the same.
func TestSameCallsDoTheSame(t *testing.T) {
	for n, s := range someSettings() {
		l, other, d := newList(t), newList(t), newDraws(700, n, s)
		for range s.calls {
			c, now := d.call(l)
			if x, y := c.inList(l, now), c.inList(other, now); x != y {
				t.Fatalf("%+v at %d is %+v and %+v", c, now, x, y)
			}
			if !slices.Equal(l.All(), other.All()) || l.Live() != other.Live() || l.Now() != other.Now() {
				t.Fatalf("behind %+v at %d they are unlike: %+v and %+v", c, now, l.All(), other.All())
			}
		}
	}
}
