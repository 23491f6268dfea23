package kv

import (
	"slices"
	"strconv"
	"strings"
	"testing"

	"garboard/api"
	"garboard/decode"
	"garboard/model"
	"garboard/rand"
)

// shape is a kind of cache, with how many calls are drawn of it.
type shape struct{ pages, size, calls int }

// shapes are caches with few and many pages, of all kinds of sizes.
func shapes() []shape {
	return []shape{
		{1, 1, 200}, {1, 2, 200}, {1, 16, 200}, {2, 1, 400}, {2, 3, 400}, {3, 2, 800}, {4, 1, 800}, {5, 2, 800}, {6, 16, 500},
		{7, 4, 800}, {8, 1, 800}, {9, 3, 800}, {12, 2, 800}, {16, 15, 400}, {20, 1, 600}, {40, 2, 400}, {256, 1, 200}, {256, 2, 200},
	}
}

// draw is a number below most.
func draw(s *rand.Source, most int) int { return int(s.Next() % uint64(most)) }

// drawText is a text that begins with 0, and has beginnings in common with others: it is made of few blocks, is cut anywhere, and is turned at times in one token.
func drawText(s *rand.Source, size int) []int {
	var text []int
	for range 1 + draw(s, 6) {
		block := make([]int, size)
		block[draw(s, 2)*(size-1)] = draw(s, 3)
		text = append(text, block...)
	}
	if draw(s, 3) == 0 {
		text = text[:1+draw(s, len(text))]
	}
	if draw(s, 4) == 0 {
		text[draw(s, len(text))] = draw(s, 5)
	}
	text[0] = 0
	return text
}

// states are those of texts, each gone through once, and never by way of a cache.
type states struct {
	model *model.Model
	known map[string]*decode.State
}

// newStates are those of a model.
func newStates(m *model.Model) states { return states{model: m, known: map[string]*decode.State{}} }

// of is the state of a text.
func (k states) of(t *testing.T, text []int) *decode.State {
	t.Helper()
	var name strings.Builder
	for _, token := range text {
		name.WriteString(strconv.Itoa(token) + " ")
	}
	s, ok := k.known[name.String()]
	if !ok {
		s = stateOf(t, k.model, text)
		k.known[name.String()] = s
	}
	return s
}

// drawnCall does a drawn call to a cache and its book: what is found is held against a state that was gone through anew.
func drawnCall(t *testing.T, s *rand.Source, p pair, k states) {
	t.Helper()
	text := drawText(s, p.book.size)
	switch at := draw(s, 100); {
	case at == 0:
		p.cache.Clear()
		p.book.clear()
	case at < 40:
		found, n := p.cache.Find(text)
		if want := p.book.find(text); n != want || (found == nil) != (want == 0) {
			t.Fatalf("%d pages of %d: Find(%v): %d, want %d", p.book.pages, p.book.size, text, n, want)
		}
		if n > 0 {
			checkState(t, found, k.of(t, text[:n]))
		}
	case at < 50:
		if p.cache.Has(text) != (p.book.at(text) >= 0) {
			t.Fatalf("%d pages of %d: Has(%v): %v", p.book.pages, p.book.size, text, p.cache.Has(text))
		}
	default:
		if n, want := p.cache.Put(k.of(t, text)), p.book.put(text); n != want {
			t.Fatalf("%d pages of %d: Put(%v): %d, want %d", p.book.pages, p.book.size, text, n, want)
		}
	}
}

// TestDrawnOrders (P14.1, P14.2, P14.3): calls in drawn orders answer as the chapter's words say, and leave behind what they say of each entry.
func TestDrawnOrders(t *testing.T) {
	m := modelOf(t, small())
	k := newStates(m)
	for _, shape := range shapes() {
		for seed := range uint64(3) {
			s := rand.New(rand.Derive(1, seed, uint64(shape.pages), uint64(shape.size)))
			p := newPair(t, m, shape.pages, shape.size)
			for range shape.calls {
				drawnCall(t, s, p, k)
				check(t, p.cache, p.book)
			}
		}
	}
}

// TestTheWordsMeetAll: the drawn calls let leaves go, refuse some, and meet texts of which all, some and no beginnings are there; else they would tell little.
func TestTheWordsMeetAll(t *testing.T) {
	met := map[string]int{}
	for _, shape := range shapes() {
		s := rand.New(rand.Derive(1, 0, uint64(shape.pages), uint64(shape.size)))
		b := &book{pages: shape.pages, size: shape.size}
		for range shape.calls {
			text := drawText(s, shape.size)
			all, before, there := len(text)/shape.size, len(b.lines), b.find(text)/shape.size
			became := b.put(text)
			if len(b.lines) < before+became {
				met["let go"]++
			}
			if there+became < all {
				met["refused"]++
			}
			switch {
			case all == 0:
				met["short"]++
			case there == all:
				met["all there"]++
			case there == 0:
				met["none there"]++
			default:
				met["some there"]++
			}
		}
	}
	for _, what := range []string{"let go", "refused", "short", "all there", "none there", "some there"} {
		if met[what] < 100 {
			t.Errorf("%s: %d times", what, met[what])
		}
	}
}

// someConfigs are configurations of few and of many numbers.
func someConfigs() []api.Config {
	return []api.Config{
		small(),
		{Seed: 8, Vocab: 5, Dim: 4, Layers: 2, Top: 5, Heat: 8},
		{Seed: 2, Vocab: 20, Dim: 4, Layers: 3, Top: 8, Heat: 0},
		{Seed: 10, Vocab: 64, Dim: 16, Layers: 4, Top: 64, Heat: 8},
	}
}

// goOn tells where two states go on otherwise: fed with the same tokens, and told from by the same seed.
func goOn(t *testing.T, m *model.Model, got, want *decode.State, seed uint64) {
	t.Helper()
	checkState(t, got, want)
	for _, token := range []int{1, 4, 0} {
		var err, wantErr api.Errno
		got, err = got.Feed(token)
		want, wantErr = want.Feed(token)
		if err != wantErr {
			t.Fatalf("Feed(%d): %v, want %v", token, err, wantErr)
		}
		checkState(t, got, want)
	}
	j := api.Job{Seed: seed, Most: 6}
	told, behind, over := decode.From(m, j, got, 0, 6)
	wantTold, wantBehind, wantOver := decode.From(m, j, want, 0, 6)
	if !slices.Equal(told, wantTold) || over != wantOver {
		t.Fatalf("behind %v: %v, %v, want %v, %v", want.Tokens(), told, over, wantTold, wantOver)
	}
	checkState(t, behind, wantBehind)
}

// TestFoundAsAnew (P14.4): behind many calls every state that is found goes on as one that was gone through anew; so do those that were found long ago, and are fed on, or put, since.
func TestFoundAsAnew(t *testing.T) {
	for at, config := range someConfigs() {
		m := modelOf(t, config)
		for _, shape := range []shape{{3, 1, 60}, {6, 2, 60}, {9, 5, 60}} {
			s := rand.New(rand.Derive(4, uint64(at), uint64(shape.pages)))
			p := newPair(t, m, shape.pages, shape.size)
			var kept []*decode.State
			for range shape.calls {
				text := drawText(s, shape.size)
				from, n := p.cache.Find(text)
				if n == 0 {
					from, n = stateOf(t, m, text[:1]), 1
				} else {
					goOn(t, m, from, stateOf(t, m, text[:n]), s.Next())
					kept = append(kept, from)
				}
				// What is put went on behind what was found, as that of a replica does.
				p.cache.Put(feed(t, from, text[n:]))
			}
			for _, found := range kept {
				goOn(t, m, found, stateOf(t, m, found.Tokens()), s.Next())
			}
			if len(kept) == 0 {
				t.Error("nothing was found")
			}
		}
	}
}

// feed is a state with tokens behind that it takes.
func feed(t *testing.T, s *decode.State, tokens []int) *decode.State {
	t.Helper()
	for _, token := range tokens {
		next, err := s.Feed(token)
		if err != api.OK {
			t.Fatal(err)
		}
		s = next
	}
	return s
}

// TestFoundOfTheLongest (P14.4): every beginning of a text of MaxTokens tokens is found as if gone through anew, at each size.
func TestFoundOfTheLongest(t *testing.T) {
	m := modelOf(t, someConfigs()[1])
	text := make([]int, 256)
	for i := range text {
		text[i] = i * i * i % 5
	}
	whole := stateOf(t, m, text)
	for _, size := range []int{1, 7, 16} {
		p := newPair(t, m, 256, size)
		if n := p.cache.Put(whole); n != 256/size {
			t.Fatal(n)
		}
		fresh := stateOf(t, m, text[:1])
		for n := 1; n <= 256; n++ {
			found, length := p.cache.Find(text[:n])
			if length != n/size*size {
				t.Fatalf("size %d: Find of %d tokens: %d", size, n, length)
			}
			if length == n {
				checkState(t, found, fresh)
			}
			if n < 256 {
				fresh = feed(t, fresh, text[n:n+1])
			}
		}
	}
}

// TestClosed (P14.5): behind every call of a drawn order all beginnings of each entry are there, and there are no more than pages, each with a page of its own.
func TestClosed(t *testing.T) {
	m := modelOf(t, small())
	k := newStates(m)
	for _, shape := range shapes() {
		s := rand.New(rand.Derive(5, uint64(shape.pages), uint64(shape.size)))
		p := newPair(t, m, shape.pages, shape.size)
		for range shape.calls {
			drawnCall(t, s, p, k)
			lines := linesOf(p.cache, p.cache.root, nil)
			if len(lines) > shape.pages || len(lines) != p.cache.Len() {
				t.Fatalf("%d pages: %d entries, Len %d", shape.pages, len(lines), p.cache.Len())
			}
			var pages []int
			for _, l := range lines {
				pages = append(pages, l.page)
				for n := shape.size; n <= len(l.text); n += shape.size {
					if !p.cache.Has(l.text[:n]) {
						t.Fatalf("%v is an entry, %v is none", l.text, l.text[:n])
					}
				}
			}
			slices.Sort(pages)
			if len(slices.Compact(slices.Clone(pages))) != len(lines) || !slices.Equal(pages, p.cache.Pages()) {
				t.Fatalf("entries with the pages %v, Pages %v", pages, p.cache.Pages())
			}
		}
	}
}

// TestFoundAtOnce (P14.6): behind any calls what was put is found at once: as many beginnings as were there, and as became entries.
func TestFoundAtOnce(t *testing.T) {
	m := modelOf(t, small())
	k := newStates(m)
	for _, shape := range shapes() {
		s := rand.New(rand.Derive(6, uint64(shape.pages), uint64(shape.size)))
		p := newPair(t, m, shape.pages, shape.size)
		for range shape.calls / 4 {
			drawnCall(t, s, p, k)
			text := drawText(s, shape.size)
			there := 0
			for p.cache.Has(text[:min(len(text), (there+1)*shape.size)]) && there < len(text)/shape.size {
				there++
			}
			became := p.cache.Put(k.of(t, text))
			p.book.put(text)
			want := (there + became) * shape.size
			if want != min(shape.pages, len(text)/shape.size)*shape.size {
				t.Fatalf("%d pages of %d: Put(%v): %d, with %d there", shape.pages, shape.size, text, became, there)
			}
			found, n := p.cache.Find(text)
			p.book.find(text)
			if n != want {
				t.Fatalf("%d pages of %d: Find(%v) behind its Put: %d, want %d", shape.pages, shape.size, text, n, want)
			}
			if n > 0 {
				checkState(t, found, k.of(t, text[:n]))
			}
			check(t, p.cache, p.book)
		}
	}
}

// TestSameCalls (R3): the same calls do the same: two caches that are called alike tell alike.
func TestSameCalls(t *testing.T) {
	m := modelOf(t, small())
	k := newStates(m)
	for _, shape := range shapes() {
		a, b := newPair(t, m, shape.pages, shape.size), newPair(t, m, shape.pages, shape.size)
		one, other := rand.New(7), rand.New(7)
		for range shape.calls / 4 {
			drawnCall(t, one, a, k)
			drawnCall(t, other, b, k)
			if !slices.EqualFunc(sorted(linesOf(a.cache, a.cache.root, nil)), sorted(linesOf(b.cache, b.cache.root, nil)), sameLine) {
				t.Fatalf("%d pages of %d: two caches are not alike", shape.pages, shape.size)
			}
		}
	}
}
