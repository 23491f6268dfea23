package affin

import (
	"math"
	"slices"
	"testing"

	"garboard/api"
	"garboard/rand"
)

// setting is a table, from how many sessions and replicas is drawn, how far the time goes on at most, and how many calls there are.
type setting struct {
	room               int
	keep               int64
	sessions, replicas int
	ahead              int64
	calls              int
}

// someSettings are tables with little room and with much, in which bindings end soon, late and never.
func someSettings() []setting {
	return []setting{
		{1, 1, 2, 2, 1, 300}, {1, 5, 3, 2, 2, 300}, {1, 1 << 32, 4, 3, 1 << 20, 300}, {2, 3, 4, 2, 1, 600}, {2, 10, 5, 3, 4, 600}, {3, 7, 4, 3, 3, 600},
		{4, 100, 9, 4, 3, 800}, {5, 4, 12, 3, 1, 800}, {8, 1 << 32, 12, 5, 1 << 29, 800}, {16, 40, 24, 8, 5, 1000}, {20, 6, 64, 8, 1, 1000}, {64, 200, 80, 4, 4, 1500},
		{1024, 50, 1100, 8, 1, 400}, {1024, 1 << 32, 40, 8, 1 << 33, 600},
	}
}

// draws are what a test's calls are made of.
type draws struct {
	*rand.Source
	setting
}

// newDraws are draws that hang on a label and a setting's number.
func newDraws(label, n int, s setting) draws {
	return draws{Source: rand.New(rand.Derive(18, uint64(label), uint64(n))), setting: s}
}

// below is a number below another one.
func (d draws) below(n int) int { return int(d.Next() % uint64(n)) }

// spread makes some of the numbers from 0 on great ones.
func spread(n int) uint64 {
	if n%3 == 2 {
		return greatest - uint64(n)
	}
	return uint64(n)
}

// session is one of few.
func (d draws) session() uint64 { return spread(d.below(d.sessions)) }

// replica is one of few.
func (d draws) replica() uint64 { return spread(d.below(d.replicas)) }

// found is how many of all sessions are found.
func (s setting) found(table *Table) int {
	count := 0
	for n := range s.sessions {
		if _, ok := table.Find(table.Now(), spread(n)); ok {
			count++
		}
	}
	return count
}

// time is a now behind that of a table: often the same, seldom one that is none or an earlier one.
func (d draws) time(now int64) int64 {
	switch d.below(16) {
	case 0:
		return []int64{math.MinInt64, -1, api.MaxTicks + 1, math.MaxInt64}[d.below(4)]
	case 1:
		return now - 1 - int64(d.below(5))
	case 2, 3, 4, 5, 6:
		return now
	}
	return now + int64(d.Next()%uint64(d.ahead+1))
}

// step is a drawn call.
func (d draws) step(t *testing.T, p pair) {
	t.Helper()
	now := d.time(p.book.now)
	switch n := d.below(20); {
	case n < 10:
		p.bind(t, now, d.session(), d.replica())
	case n < 17:
		p.find(t, now, d.session())
	case n < 19:
		p.length(t, now)
	case d.below(3) == 0:
		p.forget(t, now, d.replica())
	}
}

// TestDrawnCalls (P18.1 to P18.5): calls in drawn orders and at drawn times answer as the chapter's words say, and leave behind what they say, and never more than room.
func TestDrawnCalls(t *testing.T) {
	went := map[string]int{}
	for n, s := range someSettings() {
		for round := range 3 {
			p, d := newPair(t, s.room, s.keep), newDraws(round, n, s)
			for range s.calls {
				d.step(t, p)
			}
			for by, count := range p.book.went {
				went[by] += count
			}
		}
	}
	for _, by := range []string{"end", "session"} {
		if went[by] < 100 {
			t.Errorf("few bindings went by their %s: %v", by, went)
		}
	}
}

// TestDrawnLastTicks (P18.1, P18.2): so do calls up to the last tick and behind it, where bindings end beyond it.
func TestDrawnLastTicks(t *testing.T) {
	for n, s := range someSettings() {
		p, d := newPair(t, s.room, s.keep), newDraws(3, n, s)
		p.length(t, max(api.MaxTicks-40*s.ahead, 0))
		for range s.calls {
			d.step(t, p)
		}
		p.length(t, api.MaxTicks)
		for range s.calls / 4 {
			d.step(t, p)
		}
		if p.table.Now() != api.MaxTicks {
			t.Fatalf("the time is %d", p.table.Now())
		}
	}
}

// past is what was done to a session: when it was bound or found last, and to which replica it was bound last.
type past struct {
	replica uint64
	used    int64
	forgot  bool
}

// TestUsedStays (P18.3): where the room suffices, a binding that is used within its time is found, as long as its replica is not forgotten, and none beside; told by the calls alone.
func TestUsedStays(t *testing.T) {
	stayed, ended := 0, 0
	for n, s := range someSettings() {
		s.sessions = min(s.sessions, s.room)
		table, d := newTable(t, s.room, s.keep), newDraws(10, n, s)
		all := map[uint64]past{}
		for range 3 * s.calls {
			session, replica := d.session(), d.replica()
			now := d.time(table.Now())
			switch k := d.below(30); {
			case k < 10:
				table.Bind(now, session, replica)
				all[session] = past{replica: replica, used: table.Now()}
			case k == 10:
				table.Forget(now, replica)
				for other, was := range all {
					was.forgot = was.forgot || was.replica == replica
					all[other] = was
				}
			case k == 11:
				// Long enough for all to end that are not used just now.
				table.Len(table.Now() + s.keep - 1)
			default:
				got, ok := table.Find(now, session)
				was, known := all[session]
				want := known && !was.forgot && table.Now() < was.used+s.keep
				if ok != want || ok && got != was.replica || !ok && got != 0 {
					t.Fatalf("room %d, keep %d: Find(%d, %d) is %d, %v at %d, of one with %v", s.room, s.keep, now, session, got, ok, table.Now(), was)
				}
				if ok {
					stayed++
					was.used = table.Now()
					all[session] = was
				} else if known && !was.forgot {
					ended++
				}
			}
		}
	}
	if stayed < 1000 || ended < 1000 {
		t.Errorf("%d stayed, %d ended", stayed, ended)
	}
}

// TestNeverMore (P18.4): there are never more bindings than room, though there are as many as that; told by the calls alone.
func TestNeverMore(t *testing.T) {
	for room := 1; room <= 8; room++ {
		for _, keep := range []int64{30, 1000, 1 << 32} {
			s := setting{room: room, keep: keep, sessions: 4 * room, replicas: 3, ahead: 2}
			table, d := newTable(t, room, keep), newDraws(11, room, s)
			most := 0
			for range 600 {
				now, session := d.time(table.Now()), d.session()
				switch d.below(6) {
				case 0:
					table.Find(now, session)
				case 1:
					if d.below(8) == 0 {
						table.Forget(now, d.replica())
					}
				default:
					table.Bind(now, session, d.replica())
				}
				count := table.Len(table.Now())
				if count > room {
					t.Fatalf("room %d: there are %d", room, count)
				}
				if d.below(20) == 0 && s.found(table) != count {
					t.Fatalf("room %d: there are %d, and as many are not found", room, count)
				}
				most = max(most, count)
			}
			if most != room {
				t.Errorf("room %d, keep %d: there were never more than %d", room, keep, most)
			}
		}
	}
}

// TestFoundWasBound (P18.5): what is found is what the session was bound to last, and within its time, and not forgotten since, also in small rooms; told by the calls alone.
func TestFoundWasBound(t *testing.T) {
	for n, s := range someSettings() {
		table, d := newTable(t, s.room, s.keep), newDraws(12, n, s)
		all, found := map[uint64]past{}, 0
		for range 3 * s.calls {
			session, replica := d.session(), d.replica()
			now := d.time(table.Now())
			switch k := d.below(20); {
			case k < 9:
				table.Bind(now, session, replica)
				all[session] = past{replica: replica, used: table.Now()}
			case k == 9:
				table.Forget(now, replica)
				for other, was := range all {
					if was.replica == replica {
						delete(all, other)
					}
				}
			default:
				got, ok := table.Find(now, session)
				if !ok {
					// It went, or ended: what it was bound to before is not found any more, unless it is bound anew.
					delete(all, session)
					continue
				}
				was, known := all[session]
				if !known || got != was.replica || table.Now() >= was.used+s.keep {
					t.Fatalf("room %d, keep %d: Find(%d, %d) is %d at %d, of one with %v, %v", s.room, s.keep, now, session, got, table.Now(), was, known)
				}
				all[session] = past{replica: got, used: table.Now()}
				found++
			}
		}
		if found == 0 {
			t.Errorf("room %d, keep %d: nothing was found", s.room, s.keep)
		}
	}
}

// TestSameCallsDoTheSame (R3): two tables to which the same is done are the same, though maps are gone through in other orders.
func TestSameCallsDoTheSame(t *testing.T) {
	for n, s := range someSettings() {
		a, b, d := newTable(t, s.room, s.keep), newTable(t, s.room, s.keep), newDraws(13, n, s)
		for range s.calls {
			now, session, replica, asked := d.time(a.Now()), d.session(), d.replica(), d.session()
			sameBind := a.Bind(now, session, replica) == b.Bind(now, session, replica)
			x, okX := a.Find(now, asked)
			y, okY := b.Find(now, asked)
			if !sameBind || x != y || okX != okY || a.Len(now) != b.Len(now) || a.Now() != b.Now() {
				t.Fatalf("room %d, keep %d: two tables part at %d", s.room, s.keep, now)
			}
			if d.below(30) == 0 && a.Forget(now, replica) != b.Forget(now, replica) {
				t.Fatalf("room %d, keep %d: two tables part at Forget", s.room, s.keep)
			}
			if !slices.Equal(linesOf(a), linesOf(b)) {
				t.Fatalf("room %d, keep %d: the bindings of two tables part", s.room, s.keep)
			}
		}
	}
}
