package ptree

import (
	"math"
	"slices"
	"testing"

	"garboard/api"
)

// TestExample: the chapter's.
func TestExample(t *testing.T) {
	tree := newTree(t, 5, 2)
	if got := tree.Put([]int{1, 2, 3}, 7); got != 1 || tree.Len() != 1 {
		t.Errorf("Put of 1, 2, 3: %d, and there are %d", got, tree.Len())
	}
	wantMatch(t, tree, []int{1, 2}, map[uint64]int{7: 2})
}

// TestNew (P17.1): a room and a size that may be, and no marks.
func TestNew(t *testing.T) {
	wrong := []int{math.MinInt, -1 << 32, -1<<32 + 1, -4096, -16, -2, -1, 0, 4097, 4098, 1 << 16, 1 << 32, 1<<32 + 1, math.MaxInt}
	for _, bad := range wrong {
		for _, other := range append([]int{1, 16}, wrong...) {
			wantNone(t, bad, other)
			wantNone(t, other, bad)
		}
	}
	for _, size := range []int{17, 18, 32, 256, 4096} {
		wantNone(t, 1, size)
		wantNone(t, 4096, size)
	}
	for _, room := range []int{1, 2, 16, 17, 4095, 4096} {
		for size := 1; size <= 16; size++ {
			p := newPair(t, room, size)
			p.check(t)
			p.match(t, run(0, 40)...)
			p.forget(t, 0)
			p.has(t, 0)
			p.has(t, 0, run(0, size)...)
			if got := p.put(t, 0, run(0, 2*size)...); got != min(room, 2) {
				t.Fatalf("room %d, size %d: %d marks of two beginnings", room, size, got)
			}
		}
	}
}

// wantNone tells where New gives a tree that may not be.
func wantNone(t *testing.T, room, size int) {
	t.Helper()
	if tree, err := New(room, size); tree != nil || err != api.ErrArg {
		t.Errorf("New(%d, %d): %v", room, size, err)
	}
}

// TestRoom (P17.1): a tree has just as much room as it was told.
func TestRoom(t *testing.T) {
	for _, room := range []int{1, 2, 16, 17, 4095, 4096} {
		tree := newTree(t, room, 1)
		for n := range room {
			if got := tree.Put([]int{n}, 5); got != 1 || tree.Len() != n+1 {
				t.Fatalf("room %d: the mark %d: %d are new, %d are there", room, n, got, tree.Len())
			}
		}
		if !tree.Has([]int{0}, 5) {
			t.Fatalf("room %d: the first mark is not there, with %d", room, tree.Len())
		}
		if got := tree.Put([]int{room}, 5); got != 1 || tree.Len() != room || tree.Has([]int{0}, 5) || !tree.Has([]int{room}, 5) {
			t.Fatalf("room %d: one more: %d are new, %d are there", room, got, tree.Len())
		}
	}
}

// TestPutLengths (P17.1): marks are of multiples of size, at least one such, and of no other length.
func TestPutLengths(t *testing.T) {
	for size := 1; size <= 16; size++ {
		for count := range 4*size + 2 {
			p := newPair(t, 9, size)
			tokens := run(3, count)
			if got := p.put(t, 7, tokens...); got != count/size {
				t.Fatalf("size %d: %d are new of %d tokens", size, got, count)
			}
			for n := range count + 1 {
				if got := p.has(t, 7, tokens[:n]...); got != (n > 0 && n%size == 0) {
					t.Fatalf("size %d, %d tokens: Has of %d is %v", size, count, n, got)
				}
			}
			if got := p.match(t, tokens...); got[7] != count/size*size || len(got) != min(count/size, 1) {
				t.Fatalf("size %d, %d tokens: they match %v", size, count, got)
			}
		}
	}
}

// TestPutNone (P17.1, P17.2): no tokens at all are no mark, and match none, whether the list is nil or empty.
func TestPutNone(t *testing.T) {
	p := newPair(t, 3, 1)
	for _, none := range [][]int{nil, {}} {
		if p.put(t, 0, none...) != 0 || p.tree.Len() != 0 {
			t.Fatal("no tokens became a mark")
		}
	}
	p.put(t, 0, 0)
	for _, none := range [][]int{nil, {}} {
		if p.put(t, 0, none...) != 0 || p.tree.Len() != 1 || p.has(t, 0, none...) || len(p.match(t, none...)) != 0 {
			t.Fatal("no tokens have a mark")
		}
	}
}

// TestPutThere (P17.1): of what is there just the use is new; of what is there for another replica, or as a beginning of a longer text, all is new that is not there.
func TestPutThere(t *testing.T) {
	p := newPair(t, 20, 2)
	for _, c := range []struct {
		replica uint64
		tokens  []int
		want    int
	}{
		{7, []int{1, 2, 3, 4, 5}, 2},
		{7, []int{1, 2, 3, 4, 5}, 0},
		{7, []int{1, 2, 3, 4}, 0},
		{7, []int{1, 2}, 0},
		{8, []int{1, 2, 3, 4}, 2},
		{8, []int{1, 2, 3, 4, 5}, 0},
		{7, []int{1, 2, 3, 4, 5, 6}, 1},
		{7, []int{1, 2, 3, 5, 5, 6}, 2},
		{7, []int{1, 2, 4, 3}, 1},
		{7, []int{2, 1, 3, 4}, 2},
		{8, []int{1, 2, 3, 4, 5, 6, 7, 8}, 2},
		{0, []int{1, 2, 3}, 1},
		{math.MaxUint64, []int{1, 2, 3}, 1},
	} {
		if got := p.put(t, c.replica, c.tokens...); got != c.want {
			t.Fatalf("Put(%v, %d) is %d, want %d", c.tokens, c.replica, got, c.want)
		}
	}
}

// wantMarks tells where the marks of a tree are not just these.
func (p pair) wantMarks(t *testing.T, want ...line) {
	t.Helper()
	for _, l := range want {
		if !p.has(t, l.replica, l.text...) {
			t.Errorf("%v of %d is not there", l.text, l.replica)
		}
	}
	if p.tree.Len() != len(want) {
		t.Errorf("there are %d marks, want %d: %v", p.tree.Len(), len(want), linesOf(p.tree))
	}
}

// TestGoesByUse (P17.1): in a tree that is full the mark goes that was used the longest ago, whatever its length, its replica and its tokens.
func TestGoesByUse(t *testing.T) {
	p := newPair(t, 3, 1)
	p.put(t, 9, 5)
	p.put(t, 1, 6, 7)
	p.put(t, 0, 0)
	p.wantMarks(t, line{text: []int{6}, replica: 1}, line{text: []int{6, 7}, replica: 1}, line{text: []int{0}})

	// Put of what is there is a use: now the others are older.
	p = newPair(t, 3, 1)
	p.put(t, 9, 5)
	p.put(t, 8, 6)
	p.put(t, 7, 4)
	p.put(t, 9, 5)
	p.put(t, 3, 3)
	p.wantMarks(t, line{text: []int{5}, replica: 9}, line{text: []int{4}, replica: 7}, line{text: []int{3}, replica: 3})
	p.put(t, 2, 2)
	p.wantMarks(t, line{text: []int{5}, replica: 9}, line{text: []int{2}, replica: 2}, line{text: []int{3}, replica: 3})
}

// TestGoesByLength (P17.1): of marks that were used at one time the longest goes.
func TestGoesByLength(t *testing.T) {
	p := newPair(t, 4, 2)
	p.put(t, 5, 9, 9, 8, 8, 7, 7, 6, 6)
	p.put(t, 6, 1, 1)
	p.wantMarks(t, line{text: []int{9, 9}, replica: 5}, line{text: []int{9, 9, 8, 8}, replica: 5}, line{text: []int{9, 9, 8, 8, 7, 7}, replica: 5}, line{text: []int{1, 1}, replica: 6})
	p.put(t, 6, 2, 2, 3, 3)
	p.wantMarks(t, line{text: []int{9, 9}, replica: 5}, line{text: []int{1, 1}, replica: 6}, line{text: []int{2, 2}, replica: 6}, line{text: []int{2, 2, 3, 3}, replica: 6})

	// The lesser replica has the shorter one: the length counts ahead of it.
	p = newPair(t, 3, 1)
	p.put(t, 1, 4)
	p.put(t, 2, 4, 5)
	p.match(t, 4, 5)
	p.put(t, 3, 6)
	p.wantMarks(t, line{text: []int{4}, replica: 1}, line{text: []int{4}, replica: 2}, line{text: []int{6}, replica: 3})
}

// TestGoesByReplica (P17.1): of marks of one time and length that of the least replica goes.
func TestGoesByReplica(t *testing.T) {
	const last, half = math.MaxUint64, 1 << 63
	replicas := []uint64{300, last, 2, half, 0, 127, 128, half - 1}
	p := newPair(t, len(replicas), 3)
	for _, replica := range replicas {
		p.put(t, replica, 1, 2, 3)
	}
	p.match(t, 1, 2, 3, 4)
	slices.Sort(replicas)
	for n, least := range replicas {
		p.put(t, 55, 10+n, 0, 0)
		if p.has(t, least, 1, 2, 3) {
			t.Errorf("the mark of %d stayed", least)
		}
		for _, other := range replicas[n+1:] {
			if !p.has(t, other, 1, 2, 3) {
				t.Errorf("the mark of %d went, as %d was the least replica", other, least)
			}
		}
	}
}

// plant is a full tree whose marks are of such texts, each of one replica and of one time. No calls lead there, as each use is one of a single text.
func plant(t *testing.T, replica uint64, texts ...[]int) pair {
	t.Helper()
	p := newPair(t, len(texts), len(texts[0]))
	for _, text := range texts {
		p.put(t, replica, text...)
	}
	for _, m := range p.tree.marks {
		m.used = 1
	}
	for i := range p.book.lines {
		p.book.lines[i].used = 1
	}
	p.check(t)
	return p
}

// TestGoesByToken (P17.1): of marks of one time, length and replica that goes whose first token is the least that differs, as numbers, not as bytes.
func TestGoesByToken(t *testing.T) {
	order := [][]int{
		{math.MinInt, 9, 9}, {-300, 0, 0}, {-1, 1, 1}, {0, 300, 300}, {1, -2, 0}, {1, -1, 0}, {1, 0, 5}, {1, 63, 4}, {1, 64, 3}, {1, 127, 2}, {1, 128, 1},
		{1, 255, 0}, {1, 256, 0}, {1, 256, 1}, {2, 0, 0}, {63, 0, 0}, {64, 0, 0}, {300, 0, 0}, {16384, 0, 0}, {math.MaxInt, math.MinInt, 0}, {math.MaxInt, 0, 0},
	}
	reversed := slices.Clone(order)
	slices.Reverse(reversed)
	for _, texts := range [][][]int{order, reversed} {
		p := plant(t, 4, texts...)
		for n, first := range order {
			p.put(t, 4, 1000+n, 0, 0)
			if p.has(t, 4, first...) {
				t.Errorf("%v stayed", first)
			}
			for _, other := range order[n+1:] {
				if !p.has(t, 4, other...) {
					t.Errorf("%v went, as %v has the least token", other, first)
				}
			}
		}
		if p.book.full["token"] != len(order)-1 {
			t.Errorf("the book told by %v", p.book.full)
		}
	}
}

// TestCompare (P17.1): of any two marks just one goes first, by the first of the four that differs.
func TestCompare(t *testing.T) {
	order := []line{
		{[]int{5, 5, 5}, 9, 1}, {[]int{1, 5}, 9, 1}, {[]int{8}, 0, 2}, {[]int{0}, 1, 2}, {[]int{-1}, 2, 2}, {[]int{0}, 2, 2}, {[]int{200}, 2, 2}, {[]int{0, 0, 0}, 0, 3}, {[]int{0, 0, 1}, 0, 3},
	}
	for i, x := range order {
		for k, y := range order {
			if got := markOf(x).compare(markOf(y)); got != max(-1, min(1, i-k)) {
				t.Errorf("%v and %v: %d", x, y, got)
			}
		}
	}
}

// markOf is a line as a mark.
func markOf(l line) *mark {
	return &mark{name: nameOf(l.text, l.replica), replica: l.replica, length: len(l.text), used: uint64(l.used)}
}

// TestMoreThanRoom (P17.1): of a text with more beginnings than room the shortest ones have marks, and nothing else is there any more.
func TestMoreThanRoom(t *testing.T) {
	for _, room := range []int{1, 2, 3, 10} {
		for _, size := range []int{1, 3, 16} {
			for _, more := range []int{0, 1, size, size + 1, 5 * size} {
				p := newPair(t, room, size)
				p.put(t, 3, run(500, 2*size)...)
				tokens := run(0, room*size+more)
				for n, want := range []int{room, 0, 0} {
					if got := p.put(t, 4, tokens...); got != want || p.tree.Len() != room {
						t.Fatalf("room %d, size %d, %d tokens more, put %d: %d are new, %d are there", room, size, more, n, got, p.tree.Len())
					}
				}
				if got := p.match(t, tokens...); len(got) != 1 || got[4] != room*size {
					t.Fatalf("room %d, size %d: they match %v", room, size, got)
				}
			}
		}
	}
	tree := newTree(t, 4096, 16)
	tokens := run(-9, 4096*16+16)
	if got := tree.Put(tokens, 1); got != 4096 || tree.Len() != 4096 {
		t.Errorf("in the greatest tree: %d are new, %d are there", got, tree.Len())
	}
	wantMatch(t, tree, tokens, map[uint64]int{1: 4096 * 16})
	if !tree.Has(tokens[:4096*16], 1) || tree.Has(tokens, 1) || tree.Has(tokens[:4096*16-1], 1) {
		t.Error("in the greatest tree another mark is the longest one")
	}
}

// TestPartOfRoom (P17.1): a text some of whose beginnings are there takes the place of others alone, and of no more of them than it needs.
func TestPartOfRoom(t *testing.T) {
	p := newPair(t, 5, 1)
	p.put(t, 1, 1, 2)
	p.put(t, 2, 7, 8, 9)
	if got := p.put(t, 1, 1, 2, 3, 4); got != 2 {
		t.Errorf("%d are new", got)
	}
	p.wantMarks(t, line{text: []int{1}, replica: 1}, line{text: []int{1, 2}, replica: 1}, line{text: []int{1, 2, 3}, replica: 1}, line{text: []int{1, 2, 3, 4}, replica: 1}, line{text: []int{7}, replica: 2})
	if got := p.put(t, 1, 1, 2, 3, 4, 5, 6, 7); got != 1 {
		t.Errorf("%d are new", got)
	}
	p.wantMarks(t, line{text: []int{1}, replica: 1}, line{text: []int{1, 2}, replica: 1}, line{text: []int{1, 2, 3}, replica: 1}, line{text: []int{1, 2, 3, 4}, replica: 1}, line{text: []int{1, 2, 3, 4, 5}, replica: 1})
}

// TestNil (P17.2): of a nil tree, and of one that New did not give, nothing is answered, whatever is asked.
func TestNil(t *testing.T) {
	for _, tree := range []*Tree{nil, {}, new(Tree)} {
		for range 2 {
			for _, tokens := range [][]int{nil, {}, {0}, {1, 2, 3}, run(-5, 40)} {
				for _, replica := range []uint64{0, 1, math.MaxUint64} {
					if tree.Put(tokens, replica) != 0 || len(tree.Match(tokens)) != 0 || tree.Forget(replica) != 0 || tree.Len() != 0 || tree.Has(tokens, replica) {
						t.Errorf("a tree that nobody made tells something of %v and %d", tokens, replica)
					}
				}
			}
		}
	}
}
