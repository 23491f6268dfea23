package kv

import (
	"math"
	"slices"
	"testing"

	"garboard/api"
	"garboard/decode"
	"garboard/model"
)

// TestExample: the chapter's.
func TestExample(t *testing.T) {
	p := newPair(t, modelOf(t, small()), 9, 2)
	p.wantPut(t, 2, 0, 1, 2, 3, 4)
	p.wantAll(t, []int{0, 1}, []int{0, 1, 2, 3})
}

// TestNew (P14.1): no model is refused, ahead of a size that is none and of pages that may not be; else the cache is empty.
func TestNew(t *testing.T) {
	some := modelOf(t, small())
	refused, _ := model.New(api.Config{Vocab: 1, Dim: 1, Layers: 1, Top: 1})
	sizes := map[int]bool{math.MinInt: false, -16: false, -1: false, 0: false, 1: true, 2: true, 15: true, 16: true, 17: false, 1 << 32: false, 1<<32 + 1: false, math.MaxInt: false}
	counts := map[int]bool{math.MinInt: false, -256: false, -1: false, 0: false, 1: true, 2: true, 255: true, 256: true, 257: false, 1 << 32: false, 1<<32 + 1: false, math.MaxInt: false}
	for size, sizeMay := range sizes {
		for pages, pagesMay := range counts {
			for _, m := range []*model.Model{nil, new(model.Model), refused} {
				if c, err := New(m, pages, size); c != nil || err != api.ErrNil {
					t.Errorf("no model: New(%d, %d): %v", pages, size, err)
				}
			}
			if sizeMay && pagesMay {
				newPair(t, some, pages, size).wantFind(t, 0, make([]int, 40)...)
			} else if c, err := New(some, pages, size); c != nil || err != api.ErrArg {
				t.Errorf("New(%d, %d): %v", pages, size, err)
			}
		}
	}
}

// TestNoCache (P14.3): a nil cache, and one that New did not give, have nothing, and stay so.
func TestNoCache(t *testing.T) {
	s := stateOf(t, modelOf(t, small()), []int{0, 1, 2})
	for name, c := range map[string]*Cache{"nil": nil, "new": new(Cache), "literal": {}} {
		for range 3 {
			for _, state := range []*decode.State{nil, new(decode.State), s} {
				if n := c.Put(state); n != 0 {
					t.Errorf("%s: Put: %d", name, n)
				}
			}
			for _, tokens := range [][]int{nil, {}, {0}, {0, 1, 2}} {
				if found, n := c.Find(tokens); found != nil || n != 0 {
					t.Errorf("%s: Find(%v): %d", name, tokens, n)
				}
				if c.Has(tokens) {
					t.Errorf("%s: Has(%v)", name, tokens)
				}
			}
			c.Clear()
			if c.Len() != 0 || len(c.Pages()) != 0 {
				t.Errorf("%s: Len %d, Pages %v", name, c.Len(), c.Pages())
			}
		}
	}
}

// TestFindEdges (P14.1): of no tokens, of a text shorter than the size, of just an entry, of one that goes on behind it, and of one that parts from it within a page or at its seam.
func TestFindEdges(t *testing.T) {
	p := newPair(t, modelOf(t, small()), 9, 3)
	p.wantFind(t, 0)
	p.wantFind(t, 0, 0, 1, 2)
	p.wantPut(t, 2, 0, 1, 2, 3, 4, 1, 2)
	for want, texts := range map[int][][]int{
		0: {nil, {}, {0}, {0, 1}, {0, 1, 3}, {0, 2, 2}, {1, 1, 2}, {-1, 1, 2}, {0, 1, 3, 3, 4, 1}, {3, 4, 1}, {1, 2, 3, 4, 1}, {math.MaxInt, math.MinInt, 1 << 32}, {1 << 32, 1, 2}},
		3: {{0, 1, 2}, {0, 1, 2, 3}, {0, 1, 2, 3, 4}, {0, 1, 2, 4, 4, 1}, {0, 1, 2, 3, 3, 1}, {0, 1, 2, 3, 4, 2}, {0, 1, 2, 0, 1, 2}, {0, 1, 2, math.MinInt, 4, 1}},
		6: {{0, 1, 2, 3, 4, 1}, {0, 1, 2, 3, 4, 1, 2}, {0, 1, 2, 3, 4, 1, 9, 9}, {0, 1, 2, 3, 4, 1, 2, 3, 4}, {0, 1, 2, 3, 4, 1, -5, 64, 300, 7}},
	} {
		for _, tokens := range texts {
			p.wantFind(t, want, tokens...)
		}
	}
}

// TestFindLong (P14.1): a text of far more tokens than there may be of an entry has the longest one, too.
func TestFindLong(t *testing.T) {
	for _, size := range []int{1, 3, 16} {
		p := newPair(t, modelOf(t, small()), 256, size)
		text := make([]int, 256)
		for i := range text {
			text[i] = i * i % 5
		}
		p.wantPut(t, 256/size, text...)
		p.wantFind(t, 256/size*size, slices.Concat(text, make([]int, 1<<16))...)
	}
}

// TestPutEdges (P14.2): of no state, of a text shorter than the size, of just a multiple of it, and of one token more and less, at all sizes.
func TestPutEdges(t *testing.T) {
	m := modelOf(t, small())
	for size := 1; size <= 16; size++ {
		for length := 1; length <= 4*size+1; length++ {
			p := newPair(t, m, 9, size)
			for _, none := range []*decode.State{nil, new(decode.State)} {
				if n := p.cache.Put(none); n != 0 {
					t.Fatalf("Put of no state: %d", n)
				}
				p.book.time++
				check(t, p.cache, p.book)
			}
			text := make([]int, length)
			for i := range text {
				text[i] = (i*3 + i/4) % 5
			}
			p.wantPut(t, length/size, text...)
			p.wantFind(t, length/size*size, text...)
			p.wantPut(t, 0, text...)
		}
	}
}

// TestPutSome (P14.2): of a text whose beginnings are all there, some there, and none there, those become entries that are not there.
func TestPutSome(t *testing.T) {
	p := newPair(t, modelOf(t, small()), 20, 2)
	p.wantPut(t, 2, 0, 1, 2, 3)
	p.wantPut(t, 0, 0, 1, 2, 3)
	p.wantPut(t, 0, 0, 1, 2, 3, 4)
	p.wantPut(t, 0, 0, 1)
	p.wantPut(t, 0, 0)
	p.wantPut(t, 2, 0, 1, 2, 3, 4, 4, 1, 1)
	p.wantPut(t, 2, 0, 1, 2, 4, 4, 4)
	p.wantPut(t, 3, 0, 2, 2, 3, 4, 4)
	p.wantPut(t, 1, 0, 2, 2, 3, 4, 4, 0, 0)
	p.wantAll(t, []int{0, 1}, []int{0, 1, 2, 3}, []int{0, 1, 2, 3, 4, 4}, []int{0, 1, 2, 3, 4, 4, 1, 1},
		[]int{0, 1, 2, 4}, []int{0, 1, 2, 4, 4, 4}, []int{0, 2}, []int{0, 2, 2, 3}, []int{0, 2, 2, 3, 4, 4}, []int{0, 2, 2, 3, 4, 4, 0, 0})
}

// TestZeros (P14.1, P14.2): tokens that are 0 count as all others do, wherever they stand in a page.
func TestZeros(t *testing.T) {
	for _, size := range []int{1, 2, 3, 15, 16} {
		p := newPair(t, modelOf(t, small()), 9, size)
		p.wantPut(t, 2, make([]int, 3*size-1)...)
		p.wantFind(t, 2*size, make([]int, 3*size)...)
		other := make([]int, 3*size)
		other[len(other)-1] = 1
		p.wantPut(t, 1, other...)
		p.wantPut(t, 1, make([]int, 3*size)...)
		p.wantFind(t, 3*size, other...)
	}
}

// full is a full cache of three pages of 2 tokens: the texts 0 1, 0 2 and 0 3 were put in this order.
func full(t *testing.T) pair {
	t.Helper()
	p := newPair(t, modelOf(t, small()), 3, 2)
	for token := 1; token <= 3; token++ {
		p.wantPut(t, 1, 0, token)
	}
	return p
}

// TestOldestGoes (P14.2): with no page free the leaf goes that was used the longest ago, whichever was put first, and whichever way it was used.
func TestOldestGoes(t *testing.T) {
	for _, order := range [][]int{{1, 2, 3}, {1, 3, 2}, {2, 1, 3}, {2, 3, 1}, {3, 1, 2}, {3, 2, 1}} {
		for ways := range 8 {
			p := full(t)
			for i, token := range order {
				if ways>>i&1 == 0 {
					p.wantFind(t, 2, 0, token, 4)
				} else {
					p.wantPut(t, 0, 0, token, 4)
				}
			}
			p.wantPut(t, 1, 0, 4)
			p.wantAll(t, []int{0, 4}, []int{0, order[1]}, []int{0, order[2]})
			p.wantPut(t, 2, 0, 0, 1, 1)
			p.wantAll(t, []int{0, 0}, []int{0, 0, 1, 1}, []int{0, 4})
		}
	}
}

// TestInnerStays (P14.2): an entry that is a beginning of another one does not go, however long ago it was used; it may go next as what followed it went.
func TestInnerStays(t *testing.T) {
	p := newPair(t, modelOf(t, small()), 4, 1)
	p.wantPut(t, 4, 0, 1, 2, 3)
	p.wantPut(t, 1, 0, 4)
	p.wantAll(t, []int{0}, []int{0, 1}, []int{0, 1, 2}, []int{0, 4})
	p.wantPut(t, 1, 0, 3)
	p.wantAll(t, []int{0}, []int{0, 1}, []int{0, 4}, []int{0, 3})
	p.wantPut(t, 1, 0, 2)
	p.wantAll(t, []int{0}, []int{0, 2}, []int{0, 4}, []int{0, 3})
	p.wantPut(t, 1, 0, 1)
	p.wantAll(t, []int{0}, []int{0, 1}, []int{0, 2}, []int{0, 3})
}

// TestBecameLeaf (P14.2): within one Put what becomes a leaf may go next, ahead of a leaf that was used later.
func TestBecameLeaf(t *testing.T) {
	p := newPair(t, modelOf(t, small()), 4, 2)
	p.wantPut(t, 3, 0, 1, 2, 2, 3, 3)
	p.wantPut(t, 1, 0, 2)
	p.wantPut(t, 2, 0, 3, 1, 1)
	p.wantAll(t, []int{0, 1}, []int{0, 2}, []int{0, 3}, []int{0, 3, 1, 1})
	p.wantPut(t, 2, 0, 4, 4, 4)
	p.wantAll(t, []int{0, 3}, []int{0, 3, 1, 1}, []int{0, 4}, []int{0, 4, 4, 4})
}

// TestOwnStay (P14.2): none of the text's own beginnings goes, though it was used the longest ago, and is a leaf as the Put begins.
func TestOwnStay(t *testing.T) {
	p := full(t)
	p.wantPut(t, 2, 0, 1, 2, 3, 4, 4)
	p.wantAll(t, []int{0, 1}, []int{0, 1, 2, 3}, []int{0, 1, 2, 3, 4, 4})
}

// TestNoSuchLeaf (P14.2): where there is no such leaf no further one becomes an entry, and all that are there are used.
func TestNoSuchLeaf(t *testing.T) {
	text := []int{0, 1, 2, 3, 4, 0, 1, 2, 3, 4, 1}
	for pages := 1; pages <= 6; pages++ {
		p := newPair(t, modelOf(t, small()), pages, 2)
		p.wantPut(t, min(pages, 5), text...)
		for range 2 {
			p.wantPut(t, 0, text...)
			p.wantFind(t, 2*min(pages, 5), text...)
		}
		p.wantPut(t, min(pages, 2), 0, 2, 2, 2)
	}
}

// TestFullOfOthers (P14.2): a text that has nothing in common with a full cache takes all its pages, if it is long enough.
func TestFullOfOthers(t *testing.T) {
	for _, size := range []int{1, 2, 16} {
		p := newPair(t, modelOf(t, small()), 8, size)
		one, other := slices.Repeat([]int{0, 1}, 5*size), slices.Repeat([]int{0, 2}, 5*size)
		p.wantPut(t, 8, one...)
		p.wantPut(t, map[bool]int{true: 7, false: 8}[size == 1], other...)
		p.wantFind(t, 8*size, other...)
	}
}

// TestUsesOfBeginnings (P14.1, P14.2): Find, and Put, of what is there are uses of it and of all its beginnings, and of nothing else.
func TestUsesOfBeginnings(t *testing.T) {
	for depth := 1; depth <= 3; depth++ {
		for way := range 2 {
			p := newPair(t, modelOf(t, small()), 5, 2)
			p.wantPut(t, 3, 0, 1, 1, 1, 2, 2)
			p.wantPut(t, 1, 0, 1, 3, 3)
			p.wantPut(t, 1, 0, 2)
			text := []int{0, 1, 1, 1, 2, 2}[:2*depth]
			if way == 0 {
				p.wantFind(t, 2*depth, text...)
			} else {
				p.wantPut(t, 0, text...)
			}
			for _, l := range linesOf(p.cache, p.cache.root, nil) {
				if (l.used == 4) != begins(l.text, text) {
					t.Errorf("behind a use of %v: %v was used at %d", text, l.text, l.used)
				}
			}
		}
	}
}

// TestUsedAlong (P14.1): of a beginning that was used as a part of a longer one the use counts as that goes.
func TestUsedAlong(t *testing.T) {
	p := newPair(t, modelOf(t, small()), 4, 2)
	p.wantPut(t, 2, 0, 1, 1, 1)
	p.wantPut(t, 1, 0, 2)
	p.wantPut(t, 1, 0, 3)
	p.wantFind(t, 4, 0, 1, 1, 1)
	p.wantPut(t, 1, 0, 4)
	p.wantPut(t, 1, 0, 0)
	p.wantAll(t, []int{0, 1}, []int{0, 1, 1, 1}, []int{0, 4}, []int{0, 0})
	p.wantPut(t, 1, 0, 2)
	p.wantAll(t, []int{0, 1}, []int{0, 2}, []int{0, 4}, []int{0, 0})
	p.wantPut(t, 1, 0, 3)
	p.wantAll(t, []int{0, 3}, []int{0, 2}, []int{0, 4}, []int{0, 0})
}

// TestNoUses (P14.3): Has, Len and Pages are no uses.
func TestNoUses(t *testing.T) {
	p := full(t)
	for range 5 {
		if !p.cache.Has([]int{0, 1}) || p.cache.Len() != 3 || len(p.cache.Pages()) != 3 {
			t.Fatal("an entry is missing")
		}
		check(t, p.cache, p.book)
	}
	p.wantPut(t, 1, 0, 4)
	p.wantAll(t, []int{0, 2}, []int{0, 3}, []int{0, 4})
}

// TestFindPartOfALeaf (P14.1): Find of a beginning is no use of what is behind it.
func TestFindPartOfALeaf(t *testing.T) {
	p := newPair(t, modelOf(t, small()), 3, 2)
	p.wantPut(t, 2, 0, 1, 1, 1)
	p.wantPut(t, 1, 0, 2)
	p.wantFind(t, 2, 0, 1, 1, 2)
	p.wantPut(t, 1, 0, 3)
	p.wantAll(t, []int{0, 1}, []int{0, 2}, []int{0, 3})
}

// TestHas (P14.3): just that is an entry, or not: a beginning of one of another length is none.
func TestHas(t *testing.T) {
	p := newPair(t, modelOf(t, small()), 9, 3)
	p.wantPut(t, 3, 0, 1, 2, 3, 4, 0, 1, 2, 3, 4)
	for _, text := range [][]int{{0, 1, 2}, {0, 1, 2, 3, 4, 0}, {0, 1, 2, 3, 4, 0, 1, 2, 3}} {
		if !p.cache.Has(text) {
			t.Errorf("%v is no entry", text)
		}
	}
	for _, text := range [][]int{nil, {}, {0}, {0, 1}, {0, 1, 2, 3}, {0, 1, 2, 3, 4}, {0, 1, 2, 3, 4, 0, 1, 2}, {0, 1, 2, 3, 4, 0, 1, 2, 3, 4}, {1, 2, 3}, {3, 4, 0}, {0, 1, 2, 1, 2, 3}, {0, 1, 2, 3, 4, 0, 1, 2, 3, 4, 0, 1}, {0, 1, -2}, {math.MinInt, 0, math.MaxInt}} {
		if p.cache.Has(text) {
			t.Errorf("%v is an entry", text)
		}
	}
	check(t, p.cache, p.book)
}

// TestLenAndPages (P14.3): of a cache with none, some and all pages held: the least free page is taken next.
func TestLenAndPages(t *testing.T) {
	for _, pages := range []int{1, 2, 3, 255, 256} {
		p := newPair(t, modelOf(t, api.Config{Seed: 1, Vocab: 64, Dim: 1, Layers: 1, Top: 1}), pages, 2)
		for n := range pages {
			if p.cache.Len() != n || len(p.cache.Pages()) != n {
				t.Fatalf("%d pages: Len %d, Pages %v, want %d", pages, p.cache.Len(), p.cache.Pages(), n)
			}
			if n < 64 {
				p.wantPut(t, 1, 0, n)
			} else {
				p.wantPut(t, 1, 0, n%64, n/64, 1)
			}
		}
		if p.cache.Len() != pages || p.cache.Pages()[0] != 0 || p.cache.Pages()[pages-1] != pages-1 {
			t.Fatalf("%d pages: Len %d, Pages %v", pages, p.cache.Len(), p.cache.Pages())
		}
	}
}

// TestClear (P14.3): no entry is there, all pages are free, and it goes on as if it were empty; the time stays.
func TestClear(t *testing.T) {
	p := newPair(t, modelOf(t, small()), 3, 2)
	for range 4 {
		p.cache.Clear()
		p.book.clear()
		check(t, p.cache, p.book)
		p.wantAll(t)
		if int(p.cache.time) != p.book.time {
			t.Fatalf("the time is %d, want %d", p.cache.time, p.book.time)
		}
		p.wantFind(t, 0, 0, 1, 2, 3)
		p.wantPut(t, 3, 0, 1, 2, 3, 4, 4, 1, 1)
		p.wantFind(t, 6, 0, 1, 2, 3, 4, 4, 1, 1)
		p.wantPut(t, 1, 0, 2)
		p.wantAll(t, []int{0, 1}, []int{0, 1, 2, 3}, []int{0, 2})
	}
}

// TestClearSome (P14.3): so it is if some pages are held alone, and what was found ahead stays.
func TestClearSome(t *testing.T) {
	p := newPair(t, modelOf(t, small()), 4, 2)
	p.wantPut(t, 2, 0, 1, 2, 3)
	s, _ := p.cache.Find([]int{0, 1, 2, 3})
	p.book.find([]int{0, 1, 2, 3})
	p.cache.Clear()
	p.book.clear()
	p.wantPut(t, 1, 0, 1, 3)
	p.wantAll(t, []int{0, 1})
	checkState(t, s, stateOf(t, p.model, []int{0, 1, 2, 3}))
	if !slices.Equal(p.cache.Pages(), []int{0}) {
		t.Fatal(p.cache.Pages())
	}
}

// TestTheCallersOwn (R4): what is handed in is neither turned nor kept, and what is answered may be written over.
func TestTheCallersOwn(t *testing.T) {
	p := newPair(t, modelOf(t, small()), 4, 2)
	text := []int{0, 1, 2, 3, 4}
	s := stateOf(t, p.model, text)
	p.cache.Put(s)
	p.book.put(text)
	*s = decode.State{}
	tokens := []int{0, 1, 2, 3, 1}
	for range 3 {
		found, n := p.cache.Find(tokens[:4])
		if !slices.Equal(tokens, []int{0, 1, 2, 3, 1}) {
			t.Fatalf("the tokens have become %v", tokens)
		}
		p.book.find(tokens[:4])
		checkState(t, found, stateOf(t, p.model, text[:4]))
		if n != 4 {
			t.Fatal(n)
		}
		*found = decode.State{}
		pages := p.cache.Pages()
		pages[0], pages[1] = 9, 9
		check(t, p.cache, p.book)
	}
	p.cache.Has(tokens)
	tokens[1] = 4
	p.wantFind(t, 4, 0, 1, 2, 3, 1)
}

// TestCachesAlone (R3): what is done to one cache plays no part in another, though both were put the same state.
func TestCachesAlone(t *testing.T) {
	m := modelOf(t, small())
	a, b := newPair(t, m, 2, 2), newPair(t, m, 3, 1)
	s := stateOf(t, m, []int{0, 1, 2, 3})
	if n := a.cache.Put(s) + b.cache.Put(s); n != a.book.put(s.Tokens())+b.book.put(s.Tokens()) {
		t.Fatal(n)
	}
	a.wantPut(t, 1, 0, 2)
	check(t, b.cache, b.book)
	b.cache.Clear()
	check(t, a.cache, a.book)
	a.wantFind(t, 2, 0, 1, 2, 3)
}
