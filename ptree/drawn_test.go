package ptree

import (
	"maps"
	"slices"
	"testing"

	"garboard/rand"
)

// setting is a tree, from how many tokens and replicas is drawn, how long texts are at most, and how many calls there are.
type setting struct {
	room, size              int
	tokens, replicas, texts int
	calls                   int
}

// someSettings are trees with little room and with much.
func someSettings() []setting {
	return []setting{
		{1, 1, 2, 2, 3, 200}, {1, 3, 2, 2, 9, 200}, {2, 1, 2, 3, 4, 400}, {3, 2, 2, 3, 8, 400}, {4, 1, 3, 2, 6, 600}, {5, 1, 2, 8, 3, 600},
		{7, 3, 2, 4, 20, 600}, {8, 1, 2, 4, 12, 800}, {16, 16, 2, 3, 70, 400}, {20, 2, 2, 6, 9, 1000}, {60, 1, 3, 5, 6, 1000}, {4096, 4, 3, 5, 20, 300},
	}
}

// draws are what a test's calls are made of.
type draws struct {
	*rand.Source
	setting
}

// newDraws are draws that hang on a label and a setting's number.
func newDraws(label, n int, s setting) draws {
	return draws{Source: rand.New(rand.Derive(17, uint64(label), uint64(n))), setting: s}
}

// below is a number below another one.
func (d draws) below(n int) int { return int(d.Next() % uint64(n)) }

// text is one of few tokens, some of them odd, so that many texts begin alike.
func (d draws) text() []int {
	var tokens []int
	for range d.below(d.texts + 1) {
		token := d.below(d.tokens)
		if d.below(12) == 0 {
			token = []int{-1, 200, 1 << 40}[d.below(3)]
		}
		tokens = append(tokens, token)
	}
	return tokens
}

// replica is one of few, some of them great.
func (d draws) replica() uint64 {
	n := uint64(d.below(d.replicas))
	if n%3 == 2 {
		return n << 60
	}
	return n
}

// marked is a text with some tokens of one that has marks, so that what is there is often met.
func (d draws) marked(b *book) []int {
	if len(b.lines) == 0 || d.below(3) == 0 {
		return d.text()
	}
	text := b.lines[d.below(len(b.lines))].text
	return slices.Concat(text[:d.below(len(text)+1)], d.text())
}

// putDrawn is a Put; behind it the text is matched as far as it has marks (P17.4): of all its beginnings as many as there is room for.
func (d draws) putDrawn(t *testing.T, p pair) {
	t.Helper()
	tokens, replica := d.marked(p.book), d.replica()
	p.put(t, replica, tokens...)
	if d.below(3) != 0 {
		return
	}
	want := min(len(tokens)/d.size, d.room) * d.size
	got, there := p.match(t, tokens...)[replica]
	if got != want || there != (want > 0) {
		t.Fatalf("room %d, size %d: %v was put for %d, and is matched to %d", d.room, d.size, tokens, replica, got)
	}
}

// step is a drawn call.
func (d draws) step(t *testing.T, p pair) {
	t.Helper()
	switch n := d.below(20); {
	case n < 11:
		d.putDrawn(t, p)
	case n < 16:
		p.match(t, d.marked(p.book)...)
	case n < 19:
		p.has(t, d.replica(), d.marked(p.book)...)
	case d.below(3) == 0:
		p.forget(t, d.replica())
	}
}

// TestDrawnCalls (P17.1 to P17.4): calls in drawn orders answer as the chapter's words say, leave behind what they say, and never more than room.
func TestDrawnCalls(t *testing.T) {
	full := map[string]int{}
	for n, s := range someSettings() {
		for round := range 3 {
			p, d := newPair(t, s.room, s.size), newDraws(round, n, s)
			for range s.calls {
				d.step(t, p)
			}
			for by, count := range p.book.full {
				full[by] += count
			}
		}
	}
	for _, by := range []string{"use", "length", "replica", "none"} {
		if full[by] == 0 {
			t.Errorf("no mark went by its %s: %v", by, full)
		}
	}
}

// TestMatchedAtOnce (P17.4): behind every Put the text is matched for its replica as far as it has marks, though others went for it; told by the calls alone.
func TestMatchedAtOnce(t *testing.T) {
	for n, s := range someSettings() {
		tree, d := newTree(t, s.room, s.size), newDraws(10, n, s)
		for range s.calls {
			tokens, replica := d.text(), d.replica()
			tree.Put(tokens, replica)
			longest := 0
			for count := range len(tokens) + 1 {
				if tree.Has(tokens[:count], replica) {
					longest = count
				}
			}
			if want := min(len(tokens)/s.size, s.room) * s.size; longest != want {
				t.Fatalf("room %d, size %d: of %v the longest mark has %d", s.room, s.size, tokens, longest)
			}
			if got := tree.Match(tokens)[replica]; got != longest {
				t.Fatalf("room %d, size %d: %v has a mark of %d, and is matched to %d", s.room, s.size, tokens, longest, got)
			}
			// Other calls between them, so that there is room at times, and others are the oldest.
			switch d.below(8) {
			case 0:
				tree.Forget(d.replica())
			case 1, 2:
				tree.Match(d.text())
			}
		}
	}
}

// TestNeverMore (P17.3): there are never more marks than room; told by the calls alone.
func TestNeverMore(t *testing.T) {
	for room := 1; room <= 6; room++ {
		s := setting{room: room, size: 1 + room%3, tokens: 2, replicas: 3, texts: 20}
		tree, d := newTree(t, s.room, s.size), newDraws(11, room, s)
		known, most := map[string]struct{}{}, 0
		for range 500 {
			tokens, replica := d.text(), d.replica()
			ahead := tree.Len()
			fresh := tree.Put(tokens, replica)
			for count := range len(tokens) + 1 {
				known[nameOf(tokens[:count], replica)] = struct{}{}
			}
			if got := tree.Len(); got != min(room, ahead+fresh) || fresh > room {
				t.Fatalf("room %d: of %d marks and %d new ones %d are there", room, ahead, fresh, got)
			}
			most = max(most, tree.Len())
			if d.below(8) == 0 {
				tree.Forget(d.replica())
			}
		}
		if most != room {
			t.Errorf("room %d: there were never more than %d", room, most)
		}
		for name := range tree.marks {
			if _, put := known[name]; !put {
				t.Errorf("room %d: a mark is there that was never put", room)
			}
		}
	}
}

// TestForgottenIsUnknown (P17.5): as far as no mark had to go, a tree that forgot a replica goes on as one that never knew of it.
func TestForgottenIsUnknown(t *testing.T) {
	const gone = 1 << 50
	for n, s := range someSettings() {
		s.room = 4096
		p, twin, d := newPair(t, s.room, s.size), newPair(t, s.room, s.size), newDraws(12, n, s)
		for range s.calls / 4 {
			tokens, replica := d.marked(p.book), d.replica()
			p.put(t, replica, tokens...)
			twin.put(t, replica, tokens...)
			if d.below(2) == 0 {
				p.put(t, gone, d.marked(p.book)...)
				twin.put(t, 0)
			}
			if d.below(5) == 0 {
				p.forget(t, gone)
			}
			asked := d.marked(p.book)
			got := p.match(t, asked...)
			delete(got, gone)
			if want := twin.match(t, asked...); !maps.Equal(got, want) {
				t.Fatalf("Match(%v) is %v, without the replica %v", asked, got, want)
			}
		}
		p.forget(t, gone)
		if p.forget(t, gone) != 0 {
			t.Fatal("it was forgotten twice")
		}
		if len(p.book.full) != 0 || !sameLines(linesOf(p.tree), linesOf(twin.tree)) {
			t.Fatalf("room %d, size %d: behind Forget the marks are\n%v, and where it was never known\n%v", s.room, s.size, sorted(linesOf(p.tree)), sorted(linesOf(twin.tree)))
		}
	}
}

// TestForgottenTurnsNothing (P17.5): also in small rooms Forget lets the marks of its replica go, and leaves all others, with the times of their uses, as they are; the replica is matched no more.
func TestForgottenTurnsNothing(t *testing.T) {
	for n, s := range someSettings() {
		p, d := newPair(t, s.room, s.size), newDraws(13, n, s)
		for range s.calls / 2 {
			d.step(t, p)
			if d.below(4) != 0 {
				continue
			}
			replica := d.replica()
			others := slices.DeleteFunc(linesOf(p.tree), func(l line) bool { return l.replica == replica })
			p.tree.Forget(replica)
			p.book.forget(replica)
			if got := linesOf(p.tree); !sameLines(got, others) {
				t.Fatalf("room %d, size %d: behind Forget(%d) the marks are\n%v, want\n%v", s.room, s.size, replica, sorted(got), sorted(others))
			}
			if got, there := p.match(t, d.marked(p.book)...)[replica]; there {
				t.Fatalf("room %d, size %d: %d was forgotten, and is matched to %d", s.room, s.size, replica, got)
			}
		}
	}
}

// TestSameCallsDoTheSame (R3): two trees to which the same is done are the same.
func TestSameCallsDoTheSame(t *testing.T) {
	for n, s := range someSettings() {
		a, b, d := newTree(t, s.room, s.size), newTree(t, s.room, s.size), newDraws(14, n, s)
		for range s.calls {
			tokens, asked, replica := d.text(), d.text(), d.replica()
			if a.Put(tokens, replica) != b.Put(tokens, replica) || !maps.Equal(a.Match(asked), b.Match(asked)) || a.Len() != b.Len() {
				t.Fatalf("room %d, size %d: two trees part at %v of %d", s.room, s.size, tokens, replica)
			}
			if d.below(20) == 0 && a.Forget(replica) != b.Forget(replica) {
				t.Fatalf("room %d, size %d: two trees part at Forget(%d)", s.room, s.size, replica)
			}
			if !sameLines(linesOf(a), linesOf(b)) {
				t.Fatalf("room %d, size %d: the marks of two trees part", s.room, s.size)
			}
		}
	}
}
