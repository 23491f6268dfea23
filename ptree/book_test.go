package ptree

import (
	"cmp"
	"maps"
	"slices"
	"testing"

	"garboard/api"
)

// line is a mark as the chapter's words tell of it.
type line struct {
	text    []int
	replica uint64
	used    int
}

// book are the marks of a tree, and does what the chapter's words say, step by step: a plain list is looked through.
type book struct {
	room, size, time int
	lines            []line
	full             map[string]int // by what the line that went was told, how often
}

// begins tells whether a text is a beginning of another one, or just that.
func begins(a, b []int) bool { return len(a) <= len(b) && slices.Equal(a, b[:len(a)]) }

// at is where the line of a text and a replica stands: -1 if there is none.
func (b *book) at(text []int, replica uint64) int {
	return slices.IndexFunc(b.lines, func(l line) bool { return l.replica == replica && slices.Equal(l.text, text) })
}

// put is Put.
func (b *book) put(tokens []int, replica uint64) int {
	b.time++
	fresh := 0
	for n := b.size; n <= len(tokens); n += b.size {
		if i := b.at(tokens[:n], replica); i >= 0 {
			b.lines[i].used = b.time
			continue
		}
		if len(b.lines) == b.room && !b.letGo() {
			break
		}
		b.lines = append(b.lines, line{text: slices.Clone(tokens[:n]), replica: replica, used: b.time})
		fresh++
	}
	return fresh
}

// least are those of some lines of which a number is the least.
func least(lines []line, number func(line) uint64) []line {
	first := number(slices.MinFunc(lines, func(x, y line) int { return cmp.Compare(number(x), number(y)) }))
	return slices.DeleteFunc(slices.Clone(lines), func(l line) bool { return number(l) != first })
}

// goes is which of some lines goes: that which was used the longest ago, of these the longest one, of these that of the least replica, of these that whose first token is the least that differs; and by what it was told.
func goes(lines []line) (line, string) {
	lines = least(lines, func(l line) uint64 { return uint64(l.used) })
	if len(lines) == 1 {
		return lines[0], "use"
	}
	lines = least(lines, func(l line) uint64 { return ^uint64(len(l.text)) })
	if len(lines) == 1 {
		return lines[0], "length"
	}
	lines = least(lines, func(l line) uint64 { return l.replica })
	if len(lines) == 1 {
		return lines[0], "replica"
	}
	for n := range lines[0].text {
		// The place of a number among all of its type, so that the least one is the place 0.
		lines = least(lines, func(l line) uint64 { return uint64(l.text[n]) ^ 1<<63 })
	}
	return lines[0], "token"
}

// letGo lets a line go: false if all were used now.
func (b *book) letGo() bool {
	old := slices.DeleteFunc(slices.Clone(b.lines), func(l line) bool { return l.used == b.time })
	if len(old) == 0 {
		b.full["none"]++
		return false
	}
	l, by := goes(old)
	b.full[by]++
	at := b.at(l.text, l.replica)
	b.lines = slices.Delete(b.lines, at, at+1)
	return true
}

// match is Match.
func (b *book) match(tokens []int) map[uint64]int {
	b.time++
	all := map[uint64]int{}
	for i, l := range b.lines {
		if begins(l.text, tokens) {
			b.lines[i].used = b.time
			all[l.replica] = max(all[l.replica], len(l.text))
		}
	}
	return all
}

// forget is Forget.
func (b *book) forget(replica uint64) int {
	ahead := len(b.lines)
	b.lines = slices.DeleteFunc(b.lines, func(l line) bool { return l.replica == replica })
	return ahead - len(b.lines)
}

// pair is a tree, and its book.
type pair struct {
	tree *Tree
	book *book
}

// newTree is a tree without marks.
func newTree(t *testing.T, room, size int) *Tree {
	t.Helper()
	tree, err := New(room, size)
	if tree == nil || err != api.OK {
		t.Fatalf("New(%d, %d): %v", room, size, err)
	}
	return tree
}

// newPair is a tree without marks, and its book.
func newPair(t *testing.T, room, size int) pair {
	t.Helper()
	return pair{tree: newTree(t, room, size), book: &book{room: room, size: size, full: map[string]int{}}}
}

// put puts marks into both, which answer the same; how many are new.
func (p pair) put(t *testing.T, replica uint64, tokens ...int) int {
	t.Helper()
	ahead := slices.Clone(tokens)
	got, want := p.tree.Put(tokens, replica), p.book.put(tokens, replica)
	if got != want || !slices.Equal(tokens, ahead) {
		t.Fatalf("room %d, size %d: Put(%v, %d) is %d, want %d", p.book.room, p.book.size, ahead, replica, got, want)
	}
	p.check(t)
	return got
}

// match matches a text with both, which answer the same.
func (p pair) match(t *testing.T, tokens ...int) map[uint64]int {
	t.Helper()
	ahead := slices.Clone(tokens)
	got, want := p.tree.Match(tokens), p.book.match(tokens)
	if !maps.Equal(got, want) || !slices.Equal(tokens, ahead) {
		t.Fatalf("room %d, size %d: Match(%v) is %v, want %v", p.book.room, p.book.size, ahead, got, want)
	}
	p.check(t)
	return got
}

// forget lets a replica's marks go of both, which answer the same; how many these were.
func (p pair) forget(t *testing.T, replica uint64) int {
	t.Helper()
	got, want := p.tree.Forget(replica), p.book.forget(replica)
	if got != want {
		t.Fatalf("room %d, size %d: Forget(%d) is %d, want %d", p.book.room, p.book.size, replica, got, want)
	}
	p.check(t)
	return got
}

// has asks both for a mark, which answer the same.
func (p pair) has(t *testing.T, replica uint64, tokens ...int) bool {
	t.Helper()
	ahead := slices.Clone(tokens)
	got, want := p.tree.Has(tokens, replica), p.book.at(tokens, replica) >= 0
	if got != want || !slices.Equal(tokens, ahead) {
		t.Fatalf("room %d, size %d: Has(%v, %d) is %v, want %v", p.book.room, p.book.size, ahead, replica, got, want)
	}
	return got
}

// linesOf are the marks of a tree.
func linesOf(tree *Tree) []line {
	var all []line
	for _, m := range tree.marks {
		l := line{replica: m.replica, used: int(m.used)}
		for _, token := range m.tokens() {
			l.text = append(l.text, int(token))
		}
		all = append(all, l)
	}
	return all
}

// compareLines puts lines into an order that hangs on them alone.
func compareLines(x, y line) int {
	return cmp.Or(slices.Compare(x.text, y.text), cmp.Compare(x.replica, y.replica), cmp.Compare(x.used, y.used))
}

// sorted are lines in that order.
func sorted(lines []line) []line { return slices.SortedFunc(slices.Values(lines), compareLines) }

// sameLines tells whether lines are the same, in whichever order.
func sameLines(x, y []line) bool {
	return slices.EqualFunc(sorted(x), sorted(y), func(a, b line) bool { return compareLines(a, b) == 0 })
}

// check tells where a tree is otherwise than its book, in what it tells and in what stands of each mark; and where there are more marks than room (P17.3). It calls nothing that is a use.
func (p pair) check(t *testing.T) {
	t.Helper()
	if got := linesOf(p.tree); !sameLines(got, p.book.lines) {
		t.Fatalf("room %d, size %d: the marks are\n%v, want\n%v", p.book.room, p.book.size, sorted(got), sorted(p.book.lines))
	}
	if got := p.tree.Len(); got != len(p.book.lines) || got > p.book.room {
		t.Fatalf("room %d, size %d: Len is %d, want %d", p.book.room, p.book.size, got, len(p.book.lines))
	}
	for _, l := range p.book.lines {
		if !p.tree.Has(l.text, l.replica) {
			t.Fatalf("room %d, size %d: Has(%v, %d) is false", p.book.room, p.book.size, l.text, l.replica)
		}
	}
}

// run are so many tokens that count up from one on.
func run(from, count int) []int {
	var tokens []int
	for n := range count {
		tokens = append(tokens, from+n)
	}
	return tokens
}

// wantMatch tells where a tree matches a text otherwise.
func wantMatch(t *testing.T, tree *Tree, tokens []int, want map[uint64]int) {
	t.Helper()
	if got := tree.Match(tokens); !maps.Equal(got, want) {
		t.Fatalf("Match(%v) is %v, want %v", tokens, got, want)
	}
}
