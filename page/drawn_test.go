package page

import (
	"slices"
	"testing"

	"garboard/api"
	"garboard/rand"
)

// someSizes are numbers of pages, each with how many calls are drawn.
var someSizes = []struct{ pages, calls int }{{1, 300}, {2, 600}, {3, 900}, {8, 1500}, {31, 1500}, {255, 1500}, {256, 1500}}

// draw is a number below most.
func draw(s *rand.Source, most int) int { return int(s.Next() % uint64(most)) }

// The calls that turn a pool.
const (
	take = iota
	hold
	drop
)

// call is one of them, and its page.
type call struct{ what, n int }

// answer is what one tells.
type answer struct {
	n    int
	free bool
	err  api.Errno
}

// drawCall is any call: sometimes of a number that is no page.
func drawCall(s *rand.Source, pages, takes int) call {
	c := call{what: take}
	if at := draw(s, takes+3); at < 3 {
		c.what = []int{hold, drop, drop}[at]
	}
	c.n = draw(s, pages+2) - 1
	return c
}

// do calls a pool.
func (c call) do(p *Pool) answer {
	var a answer
	switch c.what {
	case take:
		a.n, a.err = p.Take()
	case hold:
		a.err = p.Hold(c.n)
	case drop:
		a.free, a.err = p.Drop(c.n)
	}
	return a
}

// want is what the chapter's words say of it.
func (c call) want(w counts) answer {
	var a answer
	switch c.what {
	case take:
		a.n, a.err = w.take()
	case hold:
		a.err = w.hold(c.n)
	case drop:
		a.free, a.err = w.drop(c.n)
	}
	return a
}

// TestDrawnOrders (P13.1, P13.2): calls in drawn orders, with few and with many takes among them, answer as the chapter's words say, and leave behind what they say.
func TestDrawnOrders(t *testing.T) {
	for _, size := range someSizes {
		for takes := 1; takes <= 8; takes *= 2 {
			s := rand.New(rand.Derive(1, uint64(size.pages), uint64(takes)))
			p, want := mustNew(t, size.pages), make(counts, size.pages)
			for range size.calls {
				c := drawCall(s, size.pages, takes)
				if got, wanted := c.do(p), c.want(want); got != wanted {
					t.Fatalf("%d pages: %+v: %+v, want %+v", size.pages, c, got, wanted)
				}
				check(t, p, want)
			}
		}
	}
}

// TestAsOften (P13.3): whatever the order, a page is free again just behind as many drops as it was taken and held.
func TestAsOften(t *testing.T) {
	for _, size := range someSizes {
		s := rand.New(rand.Derive(2, uint64(size.pages)))
		p, up, down := mustNew(t, size.pages), make([]int, size.pages), make([]int, size.pages)
		for range size.calls {
			c := drawCall(s, size.pages, 4)
			a := c.do(p)
			if a.err != api.OK {
				continue
			}
			switch c.what {
			case take:
				up[a.n]++
			case hold:
				up[c.n]++
			case drop:
				down[c.n]++
				if a.free != (up[c.n] == down[c.n]) {
					t.Fatalf("%d pages: %d was taken and held %d times and dropped %d times: %v", size.pages, c.n, up[c.n], down[c.n], a.free)
				}
			}
		}
		for n := range size.pages {
			dropAll(t, p, n, up[n]-down[n])
		}
		check(t, p, make(counts, size.pages))
	}
}

// dropAll drops a page that is held so many times, until it is free.
func dropAll(t *testing.T, p *Pool, n, times int) {
	t.Helper()
	for left := times; left > 0; left-- {
		if p.Held(n) != left {
			t.Fatalf("Held(%d) is %d, want %d", n, p.Held(n), left)
		}
		mustDrop(t, p, n, left == 1)
	}
	refusePage(t, p, n)
}

// TestNoHeldPageIsTaken (P13.4): what is taken was free, and was the least such; all others stay.
func TestNoHeldPageIsTaken(t *testing.T) {
	for _, size := range someSizes {
		s := rand.New(rand.Derive(3, uint64(size.pages)))
		p := mustNew(t, size.pages)
		for range size.calls {
			c := drawCall(s, size.pages, 2)
			used := p.Used()
			a := c.do(p)
			if c.what != take {
				continue
			}
			if (a.err == api.OK) != (len(used) < size.pages) {
				t.Fatalf("%d pages, of which %d were held: Take: %v", size.pages, len(used), a.err)
			}
			if a.err != api.OK {
				continue
			}
			if slices.Contains(used, a.n) {
				t.Fatalf("%d pages: %d was held, and is taken", size.pages, a.n)
			}
			if want := slices.Sorted(slices.Values(append(used, a.n))); !slices.Equal(p.Used(), want) {
				t.Fatalf("%d pages: behind a Take of %d: %v, want %v", size.pages, a.n, p.Used(), want)
			}
		}
	}
}

// refusals are all calls that the chapter refuses of a pool with such counts.
func refusals(w counts) []call {
	var all []call
	numbers := noPage(len(w))
	for n := range w {
		numbers = append(numbers, n)
	}
	for _, n := range numbers {
		for _, what := range []int{take, hold, drop} {
			c := call{what: what, n: n}
			if c.want(slices.Clone(w)).err != api.OK {
				all = append(all, c)
			}
		}
	}
	return all
}

// TestRefusedTurnsNothing (P13.5): behind every call that is refused all that the pool tells is as it was, and goes on as that of another one of which nothing was refused.
func TestRefusedTurnsNothing(t *testing.T) {
	refused := map[api.Errno]int{}
	for _, pages := range []int{1, 2, 3, 9} {
		for _, most := range []int{3, limit} {
			s := rand.New(rand.Derive(4, uint64(pages), uint64(most)))
			p, twin, want := mustNew(t, pages), mustNew(t, pages), make(counts, pages)
			for range 400 {
				c := drawCall(s, pages, 2)
				a := c.want(want)
				if a.err == api.OK {
					if got, other := c.do(p), c.do(twin); got != a || other != a {
						t.Fatalf("%d pages: %+v: %+v and %+v, want %+v", pages, c, got, other, a)
					}
				}
				if c.what == take && a.err == api.OK && most == limit && draw(s, 2) == 0 {
					p.held[a.n], twin.held[a.n], want[a.n] = limit, limit, limit
				}
				for _, r := range refusals(want) {
					err := r.want(slices.Clone(want)).err
					if got := r.do(p); got != (answer{err: err}) {
						t.Fatalf("%d pages: %+v: %+v, want %v alone", pages, r, got, err)
					}
					refused[err]++
					check(t, p, want)
				}
			}
		}
	}
	for _, err := range []api.Errno{api.ErrArg, api.ErrMany, api.ErrFull} {
		if refused[err] == 0 {
			t.Errorf("nothing was refused with %v", err)
		}
	}
}
