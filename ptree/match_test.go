package ptree

import (
	"maps"
	"math"
	"slices"
	"testing"
)

// several is a tree of size 2 in which replicas have one text to different lengths, and others beside it.
func several(t *testing.T, room int) pair {
	t.Helper()
	p := newPair(t, room, 2)
	p.put(t, 1, run(0, 2)...)
	p.put(t, 2, run(0, 5)...)
	p.put(t, 3, run(0, 8)...)
	p.put(t, 4, 0, 1, 2, 9, 4, 5)
	p.put(t, 5, 9, 1, 2, 3)
	p.put(t, 3, 7, 7, 7, 7)
	return p
}

// TestMatch (P17.2): of each replica that has a mark of some beginning how many tokens the longest one has, and of no other.
func TestMatch(t *testing.T) {
	for _, c := range []struct {
		tokens []int
		want   map[uint64]int
	}{
		{nil, nil},
		{run(0, 1), nil},
		{run(0, 2), map[uint64]int{1: 2, 2: 2, 3: 2, 4: 2}},
		{run(0, 3), map[uint64]int{1: 2, 2: 2, 3: 2, 4: 2}},
		{run(0, 4), map[uint64]int{1: 2, 2: 4, 3: 4, 4: 2}},
		{run(0, 5), map[uint64]int{1: 2, 2: 4, 3: 4, 4: 2}},
		{run(0, 7), map[uint64]int{1: 2, 2: 4, 3: 6, 4: 2}},
		{run(0, 8), map[uint64]int{1: 2, 2: 4, 3: 8, 4: 2}},
		{run(0, 200), map[uint64]int{1: 2, 2: 4, 3: 8, 4: 2}},
		{[]int{0, 1, 2, 9, 4, 5, 6}, map[uint64]int{1: 2, 2: 2, 3: 2, 4: 6}},
		{[]int{9, 1, 2, 3, 4}, map[uint64]int{5: 4}},
		{[]int{7, 7}, map[uint64]int{3: 2}},
		{[]int{7, 7, 7, 8}, map[uint64]int{3: 2}},
		{[]int{8, 1, 2, 3}, nil},
		{[]int{1, 2, 3, 4}, nil},
		{[]int{1, 0}, nil},
		{[]int{0, 2, 1, 3}, nil},
		{[]int{-1, 1, 2, 3}, nil},
	} {
		p := several(t, 100)
		if got := p.match(t, c.tokens...); !maps.Equal(got, c.want) {
			t.Errorf("Match(%v) is %v, want %v", c.tokens, got, c.want)
		}
	}
}

// TestMatchOfFew (P17.2): fewer tokens than size match nothing, whatever the size.
func TestMatchOfFew(t *testing.T) {
	for size := 1; size <= 16; size++ {
		p := newPair(t, 5, size)
		p.put(t, 7, run(0, 2*size)...)
		for count := range 3*size + 1 {
			if got := p.match(t, run(0, count)...); got[7] != min(count/size, 2)*size || len(got) != min(count/size, 1) {
				t.Errorf("size %d: %d tokens match %v", size, count, got)
			}
		}
	}
}

// TestMatchIsUse (P17.2): what is matched is used now, the shorter beginnings too, and of all replicas; nothing else is.
func TestMatchIsUse(t *testing.T) {
	p := newPair(t, 6, 1)
	p.put(t, 1, 1, 2)
	p.put(t, 2, 1, 3)
	p.put(t, 3, 4)
	p.put(t, 4, 5)
	if got := p.match(t, 1, 2, 6); !maps.Equal(got, map[uint64]int{1: 2, 2: 1}) {
		t.Fatalf("1, 2, 6 match %v", got)
	}
	for n, went := range []line{
		{text: []int{1, 3}, replica: 2}, {text: []int{4}, replica: 3}, {text: []int{5}, replica: 4},
		{text: []int{1, 2}, replica: 1}, {text: []int{1}, replica: 1}, {text: []int{1}, replica: 2},
	} {
		if !p.has(t, went.replica, went.text...) {
			t.Fatalf("%v of %d went ahead of its turn", went.text, went.replica)
		}
		p.put(t, 50, 100+n)
		if p.has(t, went.replica, went.text...) {
			t.Fatalf("%v of %d stayed, as %d were put", went.text, went.replica, n+1)
		}
	}

	// What matches nothing uses nothing.
	p = newPair(t, 2, 2)
	p.put(t, 1, 1, 1)
	p.put(t, 2, 2, 2)
	p.match(t, 1)
	p.match(t, 1, 2)
	p.match(t)
	p.put(t, 3, 3, 3)
	p.wantMarks(t, line{text: []int{2, 2}, replica: 2}, line{text: []int{3, 3}, replica: 3})
}

// TestForget (P17.2): all marks of a replica go, and no other; how many these are.
func TestForget(t *testing.T) {
	p := several(t, 100)
	ahead := p.tree.Len()
	for _, c := range []struct {
		replica uint64
		want    int
	}{{0, 0}, {6, 0}, {math.MaxUint64, 0}, {3, 6}, {3, 0}, {1, 1}, {1, 0}, {2, 2}, {5, 2}, {4, 3}, {4, 0}, {2, 0}} {
		if got := p.forget(t, c.replica); got != c.want {
			t.Errorf("Forget(%d) is %d, want %d", c.replica, got, c.want)
		}
		ahead -= c.want
		if got := p.tree.Len(); got != ahead {
			t.Errorf("behind Forget(%d) there are %d, want %d", c.replica, got, ahead)
		}
		if got := p.match(t, run(0, 8)...)[c.replica] + p.match(t, 7, 7, 7, 7)[c.replica]; got != 0 {
			t.Errorf("behind Forget(%d) it is matched", c.replica)
		}
	}
	if p.tree.Len() != 0 {
		t.Errorf("behind all of them there are %d", p.tree.Len())
	}
	if got := p.put(t, 3, run(0, 8)...); got != 4 {
		t.Errorf("Put of what was forgotten: %d are new", got)
	}
}

// TestForgetMakesRoom (P17.1, P17.2): where a replica was forgotten there is room, and no mark has to go for it.
func TestForgetMakesRoom(t *testing.T) {
	p := newPair(t, 4, 1)
	p.put(t, 1, 1)
	p.put(t, 2, 2, 3, 4)
	p.forget(t, 2)
	p.put(t, 3, 5, 6, 7)
	p.wantMarks(t, line{text: []int{1}, replica: 1}, line{text: []int{5}, replica: 3}, line{text: []int{5, 6}, replica: 3}, line{text: []int{5, 6, 7}, replica: 3})
}

// TestHas (P17.2): just the marks are there: no shorter or longer text, and none of another replica.
func TestHas(t *testing.T) {
	p := several(t, 100)
	for _, c := range []struct {
		replica uint64
		tokens  []int
		want    bool
	}{
		{3, run(0, 8), true}, {3, run(0, 6), true}, {3, run(0, 2), true}, {3, run(0, 10), false}, {3, run(0, 9), false}, {3, run(0, 7), false}, {3, run(0, 1), false}, {3, nil, false},
		{2, run(0, 4), true}, {2, run(0, 5), false}, {2, run(0, 6), false}, {1, run(0, 2), true}, {1, run(0, 4), false}, {0, run(0, 2), false}, {6, run(0, 2), false},
		{3, []int{7, 7}, true}, {2, []int{7, 7}, false}, {4, []int{0, 1, 2, 9}, true}, {4, []int{0, 1, 2, 3}, false}, {5, []int{9, 1}, true}, {5, []int{0, 1}, false},
		{3, run(0, 300), false}, {3, []int{-1, 1}, false}, {0, nil, false},
	} {
		if got := p.has(t, c.replica, c.tokens...); got != c.want {
			t.Errorf("Has(%v, %d) is %v", c.tokens, c.replica, got)
		}
	}
}

// TestNoUse (P17.2): Has, Len and Forget of others are no use: the same mark goes as without them.
func TestNoUse(t *testing.T) {
	p := newPair(t, 3, 1)
	p.put(t, 1, 1)
	p.put(t, 2, 2)
	p.put(t, 3, 3)
	for range 5 {
		p.has(t, 1, 1)
		p.has(t, 2, 1)
		p.forget(t, 9)
		p.tree.Len()
	}
	p.put(t, 4, 4)
	p.wantMarks(t, line{text: []int{2}, replica: 2}, line{text: []int{3}, replica: 3}, line{text: []int{4}, replica: 4})
}

// TestNamesApart (P17.1, P17.2): no two marks are taken for one another, whatever numbers their tokens and replicas are.
func TestNamesApart(t *testing.T) {
	odd := []int{0, 1, -1, 2, 63, 64, -64, -65, 127, 128, 255, 256, 300, 8191, 8192, 1 << 31, -1 << 31, 1 << 32, 1<<32 + 1, math.MaxInt, math.MinInt}
	p := newPair(t, 4096, 1)
	for _, replica := range []uint64{0, 1, 2, 127, 128, 300, 1 << 32, math.MaxUint64} {
		for n, token := range odd {
			want := 2
			if p.put(t, replica, token, odd[(n+1)%len(odd)]) != want {
				t.Fatalf("%d of %d was taken for another one", token, replica)
			}
		}
	}
	for _, token := range odd {
		if got := p.match(t, token); len(got) != 8 {
			t.Fatalf("%d matches %v", token, got)
		}
	}
	for _, token := range []int{3, -2, 65, 129, 1 << 33, math.MaxInt - 1, math.MinInt + 1} {
		if got := p.match(t, token, 1); len(got) != 0 {
			t.Fatalf("%d matches %v", token, got)
		}
	}
}

// TestHandedIn (R4): what is handed in stays as it is, and is not kept; what is answered is the caller's.
func TestHandedIn(t *testing.T) {
	p := newPair(t, 6, 2)
	tokens := append(make([]int, 0, 40), 1, 2, 3, 4, 5)
	p.put(t, 7, tokens...)
	all := tokens[:cap(tokens)]
	if slices.Max(all[5:]) != 0 || slices.Min(all[5:]) != 0 {
		t.Errorf("behind what was handed in stands %v", all[5:])
	}
	for i := range all {
		all[i] = 99
	}
	p.check(t)
	if !p.has(t, 7, 1, 2) || !p.has(t, 7, 1, 2, 3, 4) || p.has(t, 7, 99, 99) {
		t.Error("what was handed in, and written over, is told of")
	}

	asked := []int{1, 2, 3, 4}
	got := p.match(t, asked...)
	asked[0] = 99
	got[7], got[8] = 99, 1
	if again := p.match(t, 1, 2, 3, 4); !maps.Equal(again, map[uint64]int{7: 4}) {
		t.Errorf("behind an answer that was written over they match %v", again)
	}
	none := p.match(t, 5, 5)
	none[1] = 1
	if again := p.match(t, 5, 5); len(again) != 0 {
		t.Errorf("behind an answer that was written over they match %v", again)
	}

	name := []int{1, 2}
	p.has(t, 7, name...)
	name[0] = 98
	if p.has(t, 7, name...) || !p.has(t, 7, 1, 2) {
		t.Error("what was handed in to Has, and written over, is told of")
	}
}
