package kv

import (
	"cmp"
	"slices"
	"testing"

	"garboard/api"
	"garboard/decode"
	"garboard/model"
)

// line is an entry as the chapter's words tell of it.
type line struct {
	text       []int
	used, page int
}

// book are the entries of a cache, and does what the chapter's words say, with no tree: a list is looked through.
type book struct {
	pages, size, time int
	lines             []line
}

// begins tells whether a text is a beginning of another one, or just that.
func begins(a, b []int) bool { return len(a) <= len(b) && slices.Equal(a, b[:len(a)]) }

// at is where the line of a text stands: -1 if it is no entry.
func (b *book) at(text []int) int {
	return slices.IndexFunc(b.lines, func(l line) bool { return slices.Equal(l.text, text) })
}

// find is how many tokens Find tells of.
func (b *book) find(tokens []int) int {
	b.time++
	longest := 0
	for i, l := range b.lines {
		if begins(l.text, tokens) {
			b.lines[i].used = b.time
			longest = max(longest, len(l.text))
		}
	}
	return longest
}

// put is Put.
func (b *book) put(text []int) int {
	b.time++
	became := 0
	for n := b.size; n <= len(text); n += b.size {
		if i := b.at(text[:n]); i >= 0 {
			b.lines[i].used = b.time
			continue
		}
		if len(b.lines) == b.pages && !b.letGo(text) {
			break
		}
		b.lines = append(b.lines, line{text: text[:n], used: b.time, page: b.freePage()})
		became++
	}
	return became
}

// isLeaf tells whether a line is no beginning of another one.
func (b *book) isLeaf(l line) bool {
	return !slices.ContainsFunc(b.lines, func(o line) bool { return len(o.text) > len(l.text) && begins(l.text, o.text) })
}

// letGo lets the leaf go that was used the longest ago, but none of a text's own beginnings: false if there is no such.
func (b *book) letGo(text []int) bool {
	var may []line
	for _, l := range b.lines {
		if b.isLeaf(l) && !begins(l.text, text) {
			may = append(may, l)
		}
	}
	if len(may) == 0 {
		return false
	}
	oldest := slices.MinFunc(may, func(x, y line) int { return cmp.Compare(x.used, y.used) })
	at := b.at(oldest.text)
	b.lines = slices.Delete(b.lines, at, at+1)
	return true
}

// held are the pages that are held, rising.
func (b *book) held() []int {
	var held []int
	for _, l := range b.lines {
		held = append(held, l.page)
	}
	slices.Sort(held)
	return held
}

// freePage is the free page with the least number.
func (b *book) freePage() int {
	held := b.held()
	n := 0
	for slices.Contains(held, n) {
		n++
	}
	return n
}

// clear is Clear.
func (b *book) clear() { b.lines = nil }

// sorted are lines in an order that hangs on their texts alone.
func sorted(lines []line) []line {
	return slices.SortedFunc(slices.Values(lines), func(x, y line) int { return slices.Compare(x.text, y.text) })
}

// sameLine tells whether two lines are the same.
func sameLine(x, y line) bool {
	return slices.Equal(x.text, y.text) && x.used == y.used && x.page == y.page
}

// linesOf are the entries behind one of a cache, whose text is handed on.
func linesOf(c *Cache, e *entry, text []int) []line {
	var all []line
	for by, next := range e.next {
		whole := slices.Concat(text, by[:c.size])
		all = append(all, line{text: whole, used: int(next.used), page: next.page})
		all = append(all, linesOf(c, next, whole)...)
	}
	return all
}

// check tells where a cache is otherwise than the book, in what it tells and in what stands of each entry. It calls nothing that is a use.
func check(t *testing.T, c *Cache, b *book) {
	t.Helper()
	got, want := sorted(linesOf(c, c.root, nil)), sorted(b.lines)
	if !slices.EqualFunc(got, want, sameLine) {
		t.Fatalf("%d pages of %d: entries\n%v, want\n%v", b.pages, b.size, got, want)
	}
	if c.Len() != len(b.lines) {
		t.Fatalf("%d pages of %d: Len is %d, want %d", b.pages, b.size, c.Len(), len(b.lines))
	}
	if !slices.Equal(c.Pages(), b.held()) {
		t.Fatalf("%d pages of %d: Pages are %v, want %v", b.pages, b.size, c.Pages(), b.held())
	}
	for n, e := range c.byPage {
		if slices.Contains(b.held(), n) != (e != nil) {
			t.Fatalf("%d pages of %d: %v are held, of the page %d an entry is kept: %v", b.pages, b.size, b.held(), n, e != nil)
		}
	}
	for _, l := range b.lines {
		checkHas(t, c, b, l.text)
	}
}

// checkHas tells where Has tells otherwise than the book of a text, and of some that are nearly that.
func checkHas(t *testing.T, c *Cache, b *book, text []int) {
	t.Helper()
	other := slices.Clone(text)
	other[len(other)-1]++
	for _, tokens := range [][]int{text, text[:len(text)-1], text[1:], other, slices.Concat(text, []int{0}), slices.Concat(text, make([]int, b.size))} {
		if c.Has(tokens) != (b.at(tokens) >= 0) {
			t.Fatalf("%d pages of %d: Has(%v) is %v", b.pages, b.size, tokens, c.Has(tokens))
		}
	}
}

// pair is a cache, and the book of it.
type pair struct {
	model *model.Model
	cache *Cache
	book  *book
}

// small is a configuration of few numbers, with which many texts are gone through soon.
func small() api.Config { return api.Config{Seed: 3, Vocab: 5, Dim: 2, Layers: 1, Top: 5, Heat: 8} }

// modelOf is a configuration's model.
func modelOf(t *testing.T, c api.Config) *model.Model {
	t.Helper()
	m, err := model.New(c)
	if err != api.OK {
		t.Fatal(err)
	}
	return m
}

// newPair is an empty cache, and the book of it.
func newPair(t *testing.T, m *model.Model, pages, size int) pair {
	t.Helper()
	c, err := New(m, pages, size)
	if c == nil || err != api.OK {
		t.Fatalf("New(%d, %d): %v", pages, size, err)
	}
	p := pair{model: m, cache: c, book: &book{pages: pages, size: size}}
	check(t, p.cache, p.book)
	return p
}

// stateOf is the state of a text that begins with 0, gone through anew.
func stateOf(t *testing.T, m *model.Model, text []int) *decode.State {
	t.Helper()
	s, err := decode.Start(m, api.Job{Prompt: text[1:]}, nil)
	if err != api.OK {
		t.Fatalf("%v: %v", text, err)
	}
	return s
}

// put puts a text, of which so many beginnings become entries as the book tells: how many.
func (p pair) put(t *testing.T, text ...int) int {
	t.Helper()
	got, want := p.cache.Put(stateOf(t, p.model, text)), p.book.put(text)
	if got != want {
		t.Fatalf("%d pages of %d: Put(%v): %d, want %d", p.book.pages, p.book.size, text, got, want)
	}
	check(t, p.cache, p.book)
	return got
}

// find finds a text's beginning, as the book tells, with its state: how many tokens it has.
func (p pair) find(t *testing.T, tokens ...int) int {
	t.Helper()
	s, got := p.cache.Find(tokens)
	want := p.book.find(tokens)
	if got != want || (s == nil) != (want == 0) {
		t.Fatalf("%d pages of %d: Find(%v): %d, want %d", p.book.pages, p.book.size, tokens, got, want)
	}
	if want > 0 {
		checkState(t, s, stateOf(t, p.model, tokens[:want]))
	}
	check(t, p.cache, p.book)
	return got
}

// wantPut puts a text of which so many beginnings are to become entries.
func (p pair) wantPut(t *testing.T, want int, text ...int) {
	t.Helper()
	if got := p.put(t, text...); got != want {
		t.Fatalf("Put(%v): %d, want %d", text, got, want)
	}
}

// wantFind finds a text's beginning, which is to have so many tokens.
func (p pair) wantFind(t *testing.T, want int, tokens ...int) {
	t.Helper()
	if got := p.find(t, tokens...); got != want {
		t.Fatalf("Find(%v): %d, want %d", tokens, got, want)
	}
}

// wantAll tells where a cache has other entries than these.
func (p pair) wantAll(t *testing.T, texts ...[]int) {
	t.Helper()
	for _, text := range texts {
		if !p.cache.Has(text) {
			t.Fatalf("%v is no entry", text)
		}
	}
	if p.cache.Len() != len(texts) {
		t.Fatalf("%d entries, want %d", p.cache.Len(), len(texts))
	}
}

// checkState tells where two states are not the same: in their texts, and in what comes next.
func checkState(t *testing.T, got, want *decode.State) {
	t.Helper()
	if got.Len() != want.Len() || !slices.Equal(got.Tokens(), want.Tokens()) {
		t.Fatalf("the state of %v, want %v", got.Tokens(), want.Tokens())
	}
	for seed := range uint64(5) {
		token, ok := got.Next(seed)
		if other, otherOK := want.Next(seed); token != other || ok != otherOK {
			t.Fatalf("behind %v, by %d: %d, %v, want %d, %v", want.Tokens(), seed, token, ok, other, otherOK)
		}
	}
}
