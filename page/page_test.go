package page

import (
	"math"
	"slices"
	"testing"

	"garboard/api"
)

// limit is how often the chapter lets a page be held.
const limit = 2147483647

// counts are of each page how often it is held, and do what the chapter's words say.
type counts []int

// take is Take: all pages are looked at in order.
func (c counts) take() (int, api.Errno) {
	n := slices.Index(c, 0)
	if n < 0 {
		return 0, api.ErrFull
	}
	c[n] = 1
	return n, api.OK
}

// hold is Hold.
func (c counts) hold(n int) api.Errno {
	switch {
	case c.times(n) == 0:
		return api.ErrArg
	case c[n] == limit:
		return api.ErrMany
	}
	c[n]++
	return api.OK
}

// drop is Drop.
func (c counts) drop(n int) (bool, api.Errno) {
	if c.times(n) == 0 {
		return false, api.ErrArg
	}
	c[n]--
	return c[n] == 0, api.OK
}

// times is Held.
func (c counts) times(n int) int {
	if n < 0 || n >= len(c) {
		return 0
	}
	return c[n]
}

// used is Used.
func (c counts) used() []int {
	var used []int
	for n := range c {
		if c[n] != 0 {
			used = append(used, n)
		}
	}
	return used
}

// noPage are numbers that no pool of so many pages has.
func noPage(pages int) []int {
	return []int{math.MinInt, -1 << 32, -1 << 31, -pages, -2, -1, pages, pages + 1, 256, 257, 1 << 31, 1 << 32, 1<<32 + 1, math.MaxInt}
}

// check tells where a pool tells otherwise than the counts.
func check(t *testing.T, p *Pool, want counts) {
	t.Helper()
	for n := range want {
		if got := p.Held(n); got != want[n] {
			t.Fatalf("%d pages: Held(%d) is %d, want %d", len(want), n, got, want[n])
		}
	}
	for _, n := range noPage(len(want)) {
		if got := p.Held(n); got != 0 {
			t.Fatalf("%d pages: Held(%d) is %d, want 0", len(want), n, got)
		}
	}
	used := want.used()
	if got := p.Used(); !slices.Equal(got, used) {
		t.Fatalf("%d pages: Used is %v, want %v", len(want), got, used)
	}
	if got := p.Free(); got != len(want)-len(used) {
		t.Fatalf("%d pages: Free is %d, want %d", len(want), got, len(want)-len(used))
	}
}

// mustNew is a pool of so many pages.
func mustNew(t *testing.T, pages int) *Pool {
	t.Helper()
	p, err := New(pages)
	if p == nil || err != api.OK {
		t.Fatalf("New(%d): %v", pages, err)
	}
	return p
}

// mustTake takes a page, which is the one that is wanted.
func mustTake(t *testing.T, p *Pool, want int) {
	t.Helper()
	if n, err := p.Take(); n != want || err != api.OK {
		t.Fatalf("Take: %d, %v, want %d", n, err, want)
	}
}

// mustHold holds a page once more.
func mustHold(t *testing.T, p *Pool, n int) {
	t.Helper()
	if err := p.Hold(n); err != api.OK {
		t.Fatalf("Hold(%d): %v", n, err)
	}
}

// mustDrop drops a page, which is free then, or not.
func mustDrop(t *testing.T, p *Pool, n int, want bool) {
	t.Helper()
	if free, err := p.Drop(n); free != want || err != api.OK {
		t.Fatalf("Drop(%d): %v, %v, want %v", n, free, err, want)
	}
}

// refuseTake tells where a pool of which no page is free gives one.
func refuseTake(t *testing.T, p *Pool) {
	t.Helper()
	if n, err := p.Take(); n != 0 || err != api.ErrFull {
		t.Fatalf("Take of a full pool: %d, %v", n, err)
	}
}

// refusePage tells where a number that is no page that is held is held or dropped.
func refusePage(t *testing.T, p *Pool, n int) {
	t.Helper()
	if err := p.Hold(n); err != api.ErrArg {
		t.Fatalf("Hold(%d): %v, want %v", n, err, api.ErrArg)
	}
	if free, err := p.Drop(n); free || err != api.ErrArg {
		t.Fatalf("Drop(%d): %v, %v, want %v", n, free, err, api.ErrArg)
	}
}

// fullPool is a pool of so many pages, each of which is held once.
func fullPool(t *testing.T, pages int) *Pool {
	t.Helper()
	p := mustNew(t, pages)
	for n := range pages {
		mustTake(t, p, n)
	}
	return p
}

// ones are the counts of a full pool.
func ones(pages int) counts { return slices.Repeat(counts{1}, pages) }

// TestExample: the chapter's.
func TestExample(t *testing.T) {
	p := mustNew(t, 2)
	mustTake(t, p, 0)
	mustTake(t, p, 1)
	mustDrop(t, p, 0, true)
	mustTake(t, p, 0)
}

// TestNew (P13.1): so many pages as there may be, all free.
func TestNew(t *testing.T) {
	for _, pages := range []int{math.MinInt, -1 << 32, -256, -2, -1, 0, 257, 258, 512, 1 << 31, 1 << 32, 1<<32 + 1, math.MaxInt} {
		if p, err := New(pages); p != nil || err != api.ErrArg {
			t.Errorf("New(%d): %v", pages, err)
		}
	}
	for pages := 1; pages <= 256; pages++ {
		check(t, mustNew(t, pages), make(counts, pages))
	}
}

// TestTake (P13.1, P13.2): the free pages come with the least number first, each held once, until none is free.
func TestTake(t *testing.T) {
	for _, pages := range []int{1, 2, 3, 7, 64, 255, 256} {
		p, want := mustNew(t, pages), make(counts, pages)
		for n := range pages {
			mustTake(t, p, n)
			want[n] = 1
			check(t, p, want)
		}
		for range 3 {
			refuseTake(t, p)
			check(t, p, want)
		}
	}
}

// TestTakeWhatIsLeft (P13.1): of a full pool the page that was dropped comes, whichever it was.
func TestTakeWhatIsLeft(t *testing.T) {
	for _, pages := range []int{1, 2, 5, 256} {
		p := fullPool(t, pages)
		for n := range pages {
			mustDrop(t, p, n, true)
			mustTake(t, p, n)
			refuseTake(t, p)
			check(t, p, ones(pages))
		}
	}
}

// orders are all orders of the numbers below n.
func orders(n int) [][]int {
	if n == 0 {
		return [][]int{nil}
	}
	var all [][]int
	for _, order := range orders(n - 1) {
		for at := range n {
			all = append(all, slices.Insert(slices.Clone(order), at, n-1))
		}
	}
	return all
}

// TestTakeTheLeast (P13.1): in whichever order pages were dropped, and however many, the least ones come first.
func TestTakeTheLeast(t *testing.T) {
	const pages = 6
	for _, order := range orders(pages) {
		for dropped := range pages + 1 {
			p, want := fullPool(t, pages), ones(pages)
			for _, n := range order[:dropped] {
				mustDrop(t, p, n, true)
				want[n] = 0
			}
			check(t, p, want)
			for _, n := range slices.Sorted(slices.Values(order[:dropped])) {
				mustTake(t, p, n)
			}
			refuseTake(t, p)
			check(t, p, ones(pages))
		}
	}
}

// TestTakeBetweenDrops (P13.1): a page that was dropped comes ahead of greater ones that were free before, and behind lesser ones.
func TestTakeBetweenDrops(t *testing.T) {
	p := mustNew(t, 9)
	for n := range 5 {
		mustTake(t, p, n)
	}
	mustDrop(t, p, 3, true)
	mustTake(t, p, 3)
	mustTake(t, p, 5)
	mustDrop(t, p, 1, true)
	mustDrop(t, p, 4, true)
	mustTake(t, p, 1)
	mustDrop(t, p, 0, true)
	mustTake(t, p, 0)
	mustTake(t, p, 4)
	mustTake(t, p, 6)
	check(t, p, counts{1, 1, 1, 1, 1, 1, 1, 0, 0})
}

// TestHoldAndDrop (P13.1): a page is held once more and once less, and is free behind as many drops; the others stay.
func TestHoldAndDrop(t *testing.T) {
	for _, pages := range []int{1, 2, 256} {
		for _, n := range []int{0, pages / 2, pages - 1} {
			p, want := fullPool(t, pages), ones(pages)
			for range 5 {
				mustHold(t, p, n)
				want[n]++
				check(t, p, want)
			}
			for range 5 {
				mustDrop(t, p, n, false)
				want[n]--
				check(t, p, want)
			}
			mustDrop(t, p, n, true)
			want[n]--
			check(t, p, want)
			refusePage(t, p, n)
			check(t, p, want)
		}
	}
}

// TestHeldAnew (P13.1): a page that was free in between is held once.
func TestHeldAnew(t *testing.T) {
	p := mustNew(t, 1)
	for range 4 {
		mustTake(t, p, 0)
		check(t, p, counts{1})
		mustHold(t, p, 0)
		check(t, p, counts{2})
		mustDrop(t, p, 0, false)
		mustDrop(t, p, 0, true)
		check(t, p, counts{0})
	}
}

// TestNoSuchPage (P13.1, P13.5): what is no page of the pool, or is free, is neither held nor dropped.
func TestNoSuchPage(t *testing.T) {
	for _, pages := range []int{1, 2, 3, 255, 256} {
		for taken := range min(pages, 3) + 1 {
			p, want := mustNew(t, pages), make(counts, pages)
			for n := range taken {
				mustTake(t, p, n)
				want[n] = 1
			}
			for _, n := range noPage(pages) {
				refusePage(t, p, n)
				check(t, p, want)
			}
			for n := taken; n < pages; n++ {
				refusePage(t, p, n)
			}
			check(t, p, want)
		}
	}
}

// TestMostHeld (P13.1): a page is held 2^31 - 1 times at most, also if others are.
func TestMostHeld(t *testing.T) {
	for _, n := range []int{0, 1, 2} {
		p, want := fullPool(t, 3), ones(3)
		p.held[n], want[n] = limit-1, limit-1
		check(t, p, want)
		mustHold(t, p, n)
		want[n] = limit
		for range 3 {
			if err := p.Hold(n); err != api.ErrMany {
				t.Fatalf("Hold(%d) of the most: %v", n, err)
			}
			check(t, p, want)
		}
		mustHold(t, p, (n+1)%3)
		want[(n+1)%3] = 2
		mustDrop(t, p, n, false)
		want[n] = limit - 1
		check(t, p, want)
		mustHold(t, p, n)
		want[n] = limit
		check(t, p, want)
		refusePage(t, p, -1)
		refusePage(t, p, 3)
		refuseTake(t, p)
		check(t, p, want)
	}
}

// TestNoPool (P13.2): a nil pool, and one that New did not give, have nothing, and stay so.
func TestNoPool(t *testing.T) {
	var zero Pool
	for name, p := range map[string]*Pool{"nil": nil, "new": new(Pool), "zero": &zero} {
		for range 3 {
			if n, err := p.Take(); n != 0 || err != api.ErrNil {
				t.Errorf("%s: Take: %d, %v", name, n, err)
			}
			for _, n := range append(noPage(1), 0, 1) {
				if err := p.Hold(n); err != api.ErrNil {
					t.Errorf("%s: Hold(%d): %v", name, n, err)
				}
				if free, err := p.Drop(n); free || err != api.ErrNil {
					t.Errorf("%s: Drop(%d): %v, %v", name, n, free, err)
				}
				if times := p.Held(n); times != 0 {
					t.Errorf("%s: Held(%d): %d", name, n, times)
				}
			}
			if p.Free() != 0 || len(p.Used()) != 0 {
				t.Errorf("%s: Free %d, Used %v", name, p.Free(), p.Used())
			}
		}
	}
}

// TestUsedIsTheCallers (R4): what is written into it turns nothing.
func TestUsedIsTheCallers(t *testing.T) {
	p := fullPool(t, 4)
	mustDrop(t, p, 2, true)
	want := counts{1, 1, 0, 1}
	used, other := p.Used(), p.Used()
	for i := range used {
		used[i] = 9
	}
	_ = append(used[:1], 7, 7, 7, 7)
	if !slices.Equal(other, []int{0, 1, 3}) {
		t.Fatalf("another list has become %v", other)
	}
	check(t, p, want)
	mustTake(t, p, 2)
	if !slices.Equal(other, []int{0, 1, 3}) {
		t.Fatalf("a list that was told before has become %v", other)
	}
}

// TestPoolsAlone (R3): what is done to one pool plays no part in another.
func TestPoolsAlone(t *testing.T) {
	a, b := fullPool(t, 3), mustNew(t, 3)
	check(t, b, counts{0, 0, 0})
	mustTake(t, b, 0)
	mustHold(t, b, 0)
	mustDrop(t, a, 0, true)
	check(t, a, counts{0, 1, 1})
	check(t, b, counts{2, 0, 0})
}
