package affin

import (
	"math"
	"testing"

	"garboard/api"
)

// The greatest session, and replica.
const greatest = math.MaxUint64

// TestExample: the chapter's.
func TestExample(t *testing.T) {
	table := newTable(t, 3, 10)
	if !table.Bind(0, 5, 7) {
		t.Fatal("it is not bound")
	}
	wantFound(t, table, 9, 5, 7)
	wantFound(t, table, 18, 5, 7)
	wantUnbound(t, table, 28, 5)
	if table.Now() != 28 || table.Len(28) != 0 {
		t.Errorf("at %d there are %d", table.Now(), table.Len(28))
	}
}

// TestNew (P18.1): a room and a keep that may be, and no bindings.
func TestNew(t *testing.T) {
	for _, room := range []int{math.MinInt, -1 << 32, -1<<32 + 1, -1024, -1, 0, 1025, 1026, 1 << 16, 1 << 32, 1<<32 + 1, math.MaxInt} {
		for _, keep := range []int64{math.MinInt64, -1, 0, 1, 10, 1 << 32, 1<<32 + 1, math.MaxInt64} {
			wantNone(t, room, keep)
		}
	}
	for _, keep := range []int64{math.MinInt64, -1 << 32, -1<<32 + 1, -2, -1, 0, 1<<32 + 1, 1<<32 + 2, 1 << 33, 1 << 40, math.MaxInt64} {
		for _, room := range []int{math.MinInt, -1, 0, 1, 7, 1024, 1025, math.MaxInt} {
			wantNone(t, room, keep)
		}
	}
	for _, room := range []int{1, 2, 8, 1023, 1024} {
		for _, keep := range []int64{1, 2, 1024, 1025, 1<<31 - 1, 1 << 31, 1<<32 - 1, 1 << 32} {
			p := newPair(t, room, keep)
			p.check(t)
			if p.length(t, 0) != 0 || p.forget(t, 0, 0) != 0 || p.table.Now() != 0 {
				t.Fatalf("New(%d, %d) has bindings", room, keep)
			}
			wantUnbound(t, p.table, 0, 0)
		}
	}
}

// wantNone tells where New gives a table that may not be.
func wantNone(t *testing.T, room int, keep int64) {
	t.Helper()
	if table, err := New(room, keep); table != nil || err != api.ErrArg {
		t.Errorf("New(%d, %d): %v", room, keep, err)
	}
}

// TestRoom (P18.1, P18.4): a table has just as much room as it was told.
func TestRoom(t *testing.T) {
	for _, room := range []int{1, 2, 3, 1023, 1024} {
		table := newTable(t, room, 1<<32)
		for n := range room {
			table.Bind(int64(n), uint64(n), 5)
			if got := table.Len(0); got != n+1 {
				t.Fatalf("room %d: behind the session %d there are %d", room, n, got)
			}
		}
		if !table.Bind(0, uint64(room), 6) || table.Len(0) != room {
			t.Fatalf("room %d: behind one more there are %d", room, table.Len(0))
		}
		wantUnbound(t, table, 0, 0)
		wantFound(t, table, 0, uint64(room), 6)
		for n := 1; n < room; n++ {
			wantFound(t, table, 0, uint64(n), 5)
		}
	}
}

// callsWithNow are the calls that have a now, each of a session and a replica that no test binds beside.
func callsWithNow() map[string]func(*Table, int64) {
	return map[string]func(*Table, int64){
		"Bind":   func(table *Table, now int64) { table.Bind(now, 77, 78) },
		"Find":   func(table *Table, now int64) { table.Find(now, 77) },
		"Forget": func(table *Table, now int64) { table.Forget(now, 78) },
		"Len":    func(table *Table, now int64) { table.Len(now) },
	}
}

// TestTimes (P18.1, P18.2): each call goes on to its now, unless that is none or an earlier one; Now tells the time behind it.
func TestTimes(t *testing.T) {
	for name, call := range callsWithNow() {
		table := newTable(t, 3, 10)
		for _, c := range []struct{ now, want int64 }{
			{-1, 0}, {math.MinInt64, 0}, {api.MaxTicks + 1, 0}, {math.MaxInt64, 0}, {0, 0},
			{5, 5}, {5, 5}, {4, 5}, {0, 5}, {-1, 5}, {-5, 5}, {-6, 5}, {api.MaxTicks + 1, 5}, {1 << 41, 5}, {6, 6}, {1 << 32, 1 << 32},
			{7, 1 << 32}, {api.MaxTicks - 1, api.MaxTicks - 1}, {math.MaxInt64, api.MaxTicks - 1}, {api.MaxTicks, api.MaxTicks},
			{api.MaxTicks + 1, api.MaxTicks}, {api.MaxTicks - 1, api.MaxTicks}, {0, api.MaxTicks}, {-1, api.MaxTicks}, {api.MaxTicks, api.MaxTicks},
		} {
			call(table, c.now)
			if got := table.Now(); got != c.want {
				t.Fatalf("%s(%d): Now is %d, want %d", name, c.now, got, c.want)
			}
		}
	}
}

// TestOtherTimes (P18.1): a call whose now is none, or an earlier one, does at the table's time what it does.
func TestOtherTimes(t *testing.T) {
	for _, now := range []int64{math.MinInt64, -1, 0, 1, 99, api.MaxTicks + 1, math.MaxInt64} {
		p := newPair(t, 2, 10)
		p.bind(t, 95, 1, 5)
		p.bind(t, 100, 2, 6)
		p.bind(t, now, 3, 7) // until 110; the session 1 goes
		if p.length(t, now) != 2 {
			t.Fatalf("Len(%d) is none of the time 100", now)
		}
		wantUnbound(t, p.table, now, 1)
		wantFound(t, p.table, 109, 3, 7) // until 119
		wantUnbound(t, p.table, 110, 2)
		wantFound(t, p.table, now, 3, 7) // until 120
		wantFound(t, p.table, 119, 3, 7)
		if got := p.table.Forget(now, 7); got != 1 || p.table.Now() != 119 {
			t.Fatalf("Forget(%d) is %d, at %d", now, got, p.table.Now())
		}
	}
}

// TestEnd (P18.1, P18.2): a binding is there one tick ahead of its end, and not at its end or behind it, whichever call asks.
func TestEnd(t *testing.T) {
	for _, keep := range []int64{1, 2, 10, 1 << 32} {
		for _, start := range []int64{0, 1, 1000} {
			for late := int64(-1); late <= 1; late++ {
				there, now := 0, start+keep+late
				if late < 0 {
					there = 1
				}
				fresh := func() pair {
					p := newPair(t, 2, keep)
					p.bind(t, start, 3, 4)
					return p
				}
				if _, ok := fresh().find(t, now, 3); ok != (there == 1) {
					t.Fatalf("keep %d: bound at %d: Find at %d is %v", keep, start, now, ok)
				}
				if got := fresh().forget(t, now, 4); got != there {
					t.Fatalf("keep %d: bound at %d: Forget at %d is %d", keep, start, now, got)
				}
				if got := fresh().length(t, now); got != there {
					t.Fatalf("keep %d: bound at %d: Len at %d is %d", keep, start, now, got)
				}
				p := fresh()
				p.bind(t, now, 9, 9)
				if got := p.length(t, now); got != there+1 {
					t.Fatalf("keep %d: bound at %d: behind a Bind at %d there are %d", keep, start, now, got)
				}
			}
		}
	}
}

// TestEndsOneByOne (P18.1): of many bindings just those go whose time is not behind the call's, though other sessions than the asked one have them.
func TestEndsOneByOne(t *testing.T) {
	for name, call := range callsWithNow() {
		p := newPair(t, 40, 10)
		for n := range 20 {
			p.bind(t, int64(n/2), uint64(n), uint64(n%3))
		}
		for now := int64(10); now <= 20; now++ {
			call(p.table, now)
			for n := range uint64(20) {
				if _, bound := p.table.bindings[n]; bound != (int64(n/2)+10 > now) {
					t.Fatalf("%s(%d): the session %d is bound: %v", name, now, n, bound)
				}
			}
		}
	}
}

// TestBind (P18.1): a session is bound until keep later, whether it was bound to the same replica, to another one, to none, or to one until a time that has passed.
func TestBind(t *testing.T) {
	for _, c := range []struct {
		name         string
		first, again uint64 // the replicas
		at           int64  // the time of the second Bind
	}{
		{"the same", 7, 7, 4}, {"another", 7, 8, 4}, {"at once the same", 7, 7, 0}, {"at once another", 7, 8, 0}, {"one tick ahead of its end", 7, 8, 9},
		{"at its end", 7, 8, 10}, {"at its end the same", 7, 7, 10}, {"behind its end", 7, 8, 11}, {"long behind its end", 7, 8, 1 << 35}, {"replica 0", 7, 0, 4}, {"from replica 0", 0, 7, 4},
	} {
		p := newPair(t, 5, 10)
		p.bind(t, 0, 3, c.first)
		p.bind(t, c.at, 3, c.again)
		if p.length(t, c.at) != 1 {
			t.Fatalf("%s: there are %d", c.name, p.length(t, c.at))
		}
		if c.first != c.again && p.forget(t, c.at, c.first) != 0 {
			t.Fatalf("%s: it is bound to both", c.name)
		}
		if got, ok := p.find(t, c.at, 3); got != c.again || !ok {
			t.Fatalf("%s: it is bound to %d, %v", c.name, got, ok)
		}
		p.bind(t, c.at, 3, c.again)
		if p.length(t, c.at+9) != 1 || p.length(t, c.at+10) != 0 {
			t.Fatalf("%s: it ends otherwise", c.name)
		}
	}
}

// TestBindFull (P18.1): where there is no room the binding goes that ends first, of these that of the least session.
func TestBindFull(t *testing.T) {
	for _, c := range []struct {
		name  string
		binds []line // their end is the time at which they are bound
		gone  uint64
	}{
		{"by its end, the least", []line{{1, 5, 0}, {2, 5, 1}, {3, 5, 2}}, 1},
		{"by its end, the greatest", []line{{3, 5, 0}, {1, 5, 1}, {2, 5, 2}}, 3},
		{"by its end, whatever the replicas", []line{{2, 9, 0}, {1, 8, 1}, {3, 7, 2}}, 2},
		{"by its session, first", []line{{1, 5, 0}, {2, 5, 0}, {3, 5, 0}}, 1},
		{"by its session, last", []line{{3, 5, 0}, {2, 5, 0}, {1, 5, 0}}, 1},
		{"by its session, whatever the replicas", []line{{2, 5, 0}, {1, 9, 0}, {3, 1, 0}}, 1},
		{"by its session, of two", []line{{9, 5, 0}, {4, 5, 0}, {1, 5, 1}}, 4},
		{"by its session, great ones", []line{{greatest, 5, 0}, {1 << 63, 5, 0}, {1<<63 - 1, 5, 0}}, 1<<63 - 1},
		{"the session 0", []line{{greatest, 5, 0}, {0, 5, 0}, {1, 5, 0}}, 0},
		{"the greatest session", []line{{greatest, 5, 0}, {0, 5, 1}, {1, 5, 1}}, greatest},
	} {
		p := newPair(t, 3, 10)
		for _, b := range c.binds {
			p.bind(t, b.end, b.session, b.replica)
		}
		p.bind(t, 3, 50, 6)
		if p.length(t, 3) != 3 {
			t.Fatalf("%s: there are %d", c.name, p.length(t, 3))
		}
		for _, b := range c.binds {
			if _, ok := p.find(t, 3, b.session); ok == (b.session == c.gone) {
				t.Fatalf("%s: the session %d is bound: %v", c.name, b.session, ok)
			}
		}
		if got, ok := p.find(t, 3, 50); got != 6 || !ok {
			t.Fatalf("%s: the new one is bound to %d, %v", c.name, got, ok)
		}
	}
}

// TestBindFullBound (P18.1): where there is no room, none goes for a session that is bound.
func TestBindFullBound(t *testing.T) {
	for session := range uint64(3) {
		for _, replica := range []uint64{5, 6} {
			p := newPair(t, 3, 10)
			for n := range uint64(3) {
				p.bind(t, int64(n), n, 5)
			}
			p.bind(t, 4, session, replica)
			for n := range uint64(3) {
				want := uint64(5)
				if n == session {
					want = replica
				}
				if got, ok := p.find(t, 4, n); got != want || !ok {
					t.Fatalf("behind Bind of %d the session %d is bound to %d, %v", session, n, got, ok)
				}
			}
		}
	}
}

// TestBindFullFreed (P18.1): where room came free, as a binding's time has passed, none goes beside; also not if it is of the session itself.
func TestBindFullFreed(t *testing.T) {
	for _, c := range []struct {
		now     int64
		session uint64
		left    int // how many of the sessions 1, 2 and 3
	}{{9, 4, 2}, {10, 4, 2}, {11, 4, 1}, {12, 4, 0}, {9, 1, 3}, {10, 1, 3}, {11, 1, 2}, {10, 3, 2}, {11, 2, 2}, {12, 3, 1}} {
		p := newPair(t, 3, 10)
		for n := range int64(3) {
			p.bind(t, n, uint64(n)+1, 5)
		}
		p.bind(t, c.now, c.session, 6)
		left := 0
		for session := range uint64(3) {
			if _, ok := p.find(t, c.now, session+1); ok {
				left++
			}
		}
		if left != c.left {
			t.Fatalf("behind Bind(%d, %d) %d are left, want %d", c.now, c.session, left, c.left)
		}
	}
	p := newPair(t, 2, 10)
	p.bind(t, 0, 1, 5)
	p.bind(t, 1, 2, 6)
	p.forget(t, 2, 6)
	p.bind(t, 2, 3, 7)
	if _, ok := p.find(t, 2, 1); !ok {
		t.Fatal("it went, though room came free by Forget")
	}
}

// TestFindLasts (P18.1): Find makes a binding last longer, so that another one goes; other calls do not.
func TestFindLasts(t *testing.T) {
	p := newPair(t, 2, 10)
	p.bind(t, 0, 1, 5)
	p.bind(t, 1, 2, 6)
	p.find(t, 2, 1)
	p.bind(t, 3, 3, 7)
	wantUnbound(t, p.table, 3, 2)
	wantFound(t, p.table, 3, 1, 5)

	p = newPair(t, 2, 10)
	p.bind(t, 0, 1, 5)
	p.bind(t, 1, 2, 6)
	p.length(t, 2)
	p.forget(t, 2, 9)
	p.find(t, 2, 9)
	p.bind(t, 3, 3, 7)
	wantUnbound(t, p.table, 3, 1)
	wantFound(t, p.table, 3, 2, 6)

	// Used at one time, they go by their sessions.
	p = newPair(t, 2, 10)
	p.bind(t, 0, 2, 5)
	p.bind(t, 1, 1, 6)
	p.find(t, 1, 2)
	p.bind(t, 3, 3, 7)
	wantUnbound(t, p.table, 3, 1)
	wantFound(t, p.table, 3, 2, 5)
}

// TestFindNone (P18.1): nothing is found of a session that was never bound, whose time has passed, that went for another one, or that was forgotten; asking binds nothing.
func TestFindNone(t *testing.T) {
	p := newPair(t, 2, 10)
	for _, session := range []uint64{0, 1, greatest} {
		if got, ok := p.find(t, 0, session); got != 0 || ok || p.length(t, 0) != 0 {
			t.Fatalf("the session %d is bound to %d, %v", session, got, ok)
		}
	}
	p.bind(t, 0, 1, 5)
	p.bind(t, 1, 2, 6)
	p.bind(t, 2, 3, 7)
	wantUnbound(t, p.table, 2, 1)
	p.forget(t, 3, 6)
	wantUnbound(t, p.table, 3, 2)
	wantFound(t, p.table, 3, 3, 7) // until 13
	wantUnbound(t, p.table, 13, 3)
	wantUnbound(t, p.table, 3, 3)
	if p.table.Len(13) != 0 {
		t.Fatal("what was asked for is there")
	}
}

// TestForget (P18.2): all bindings to a replica go, and none beside: none, one or many; a second time none.
func TestForget(t *testing.T) {
	p := newPair(t, 20, 10)
	p.bind(t, 0, 0, 1)
	for n := uint64(1); n < 9; n++ {
		p.bind(t, 0, n, 2)
	}
	p.bind(t, 0, 9, 0)
	p.bind(t, 0, 10, greatest)
	for _, c := range []struct {
		replica uint64
		want    int
	}{{3, 0}, {1, 1}, {1, 0}, {2, 8}, {2, 0}, {9, 0}, {greatest, 1}, {greatest, 0}, {0, 1}, {0, 0}} {
		ahead := p.length(t, 0)
		if got := p.forget(t, 0, c.replica); got != c.want || p.length(t, 0) != ahead-c.want {
			t.Fatalf("Forget of %d is %d, want %d", c.replica, got, c.want)
		}
	}
	p.bind(t, 0, 3, 2)
	if got, ok := p.find(t, 0, 3); got != 2 || !ok {
		t.Fatal("a replica that was forgotten is not bound to again")
	}
}

// TestForgetEnded (P18.2): those whose time has passed are not counted.
func TestForgetEnded(t *testing.T) {
	for now, want := range map[int64]int{8: 5, 9: 5, 10: 4, 11: 3, 12: 2, 13: 1, 14: 0, 15: 0, api.MaxTicks: 0} {
		p := newPair(t, 20, 10)
		for n := range int64(5) {
			p.bind(t, n, uint64(n), 2)
		}
		if got := p.forget(t, now, 2); got != want {
			t.Errorf("Forget at %d is %d, want %d", now, got, want)
		}
	}
}

// TestForgetFormer (P18.2): a session that was bound to another replica since stays.
func TestForgetFormer(t *testing.T) {
	p := newPair(t, 20, 10)
	p.bind(t, 0, 1, 5)
	p.bind(t, 0, 2, 5)
	p.bind(t, 1, 1, 6)
	if got := p.forget(t, 2, 5); got != 1 {
		t.Fatalf("Forget of the former one is %d", got)
	}
	if got, ok := p.find(t, 2, 1); got != 6 || !ok {
		t.Fatalf("the session 1 is bound to %d, %v", got, ok)
	}
	wantUnbound(t, p.table, 2, 2)
	p.bind(t, 3, 1, 5)
	if p.forget(t, 3, 6) != 0 || p.forget(t, 3, 5) != 1 {
		t.Fatal("it is not the last one's")
	}
}

// TestBeyondMaxTicks (P18.1): a binding whose keep leads beyond the last tick stays till then; which one goes is told by its end there, too.
func TestBeyondMaxTicks(t *testing.T) {
	for _, keep := range []int64{1, 2, 10, 1 << 32} {
		p := newPair(t, 2, keep)
		p.bind(t, api.MaxTicks-1, 9, 5)
		p.bind(t, api.MaxTicks, 3, 6)
		left := 2
		if keep == 1 {
			left = 1
		}
		if got := p.length(t, api.MaxTicks); got != left {
			t.Fatalf("keep %d: at the last tick there are %d", keep, got)
		}
		p.bind(t, api.MaxTicks, 4, 7)
		wantUnbound(t, p.table, api.MaxTicks, 9)
		for _, now := range []int64{api.MaxTicks, api.MaxTicks + 1, api.MaxTicks + 1<<32, math.MaxInt64} {
			if got, ok := p.find(t, now, 3); got != 6 || !ok {
				t.Fatalf("keep %d: at %d the session 3 is bound to %d, %v", keep, now, got, ok)
			}
		}
		p.bind(t, api.MaxTicks, 1, 8)
		wantUnbound(t, p.table, api.MaxTicks, 3)
		wantFound(t, p.table, api.MaxTicks, 4, 7)
		wantFound(t, p.table, api.MaxTicks, 1, 8)
	}
}

// TestGreatNumbers (P18.1, P18.2): sessions and replicas are any numbers, and no two of them are the same.
func TestGreatNumbers(t *testing.T) {
	numbers := []uint64{0, 1, 1<<32 - 1, 1 << 32, 1<<63 - 1, 1 << 63, greatest - 1, greatest}
	for _, replica := range numbers {
		p := newPair(t, 8, 10)
		for n, session := range numbers {
			p.bind(t, 0, session, replica)
			if p.length(t, 0) != n+1 {
				t.Fatalf("behind Bind of %d there are %d", session, p.length(t, 0))
			}
		}
		for _, session := range numbers {
			if got, ok := p.find(t, 1, session); got != replica || !ok {
				t.Fatalf("the session %d is bound to %d, %v", session, got, ok)
			}
		}
		for _, other := range numbers {
			if other != replica && p.forget(t, 1, other) != 0 {
				t.Fatalf("%d is taken for %d", replica, other)
			}
		}
		if p.forget(t, 1, replica) != 8 {
			t.Fatalf("not all of %d went", replica)
		}
	}
}

// TestNobodyMade (P18.2): a nil table, and one that New did not give, has nothing, and takes nothing.
func TestNobodyMade(t *testing.T) {
	for name, table := range map[string]*Table{"nil": nil, "made by nobody": {}} {
		for range 2 {
			for _, now := range []int64{math.MinInt64, -1, 0, 5, api.MaxTicks, api.MaxTicks + 1, math.MaxInt64} {
				for _, n := range []uint64{0, 7, greatest} {
					if table.Bind(now, n, n) {
						t.Errorf("%s: Bind is true", name)
					}
					if got, ok := table.Find(now, n); got != 0 || ok {
						t.Errorf("%s: Find is %d, %v", name, got, ok)
					}
					if got := table.Forget(now, n); got != 0 {
						t.Errorf("%s: Forget is %d", name, got)
					}
				}
				if got := table.Len(now); got != 0 {
					t.Errorf("%s: Len is %d", name, got)
				}
				if got := table.Now(); got != 0 {
					t.Errorf("%s: Now is %d", name, got)
				}
			}
		}
	}
}
