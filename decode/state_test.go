package decode

import (
	"math"
	"slices"
	"testing"

	"garboard/api"
	"garboard/model"
)

// someSeeds are seeds by which next tokens are asked for.
var someSeeds = []uint64{0, 1, 7, math.MaxUint64}

// checkState tells where a state is not that of a text.
func checkState(t *testing.T, m *model.Model, s *State, text []int) {
	t.Helper()
	if s.Len() != len(text) || !slices.Equal(s.Tokens(), text) {
		t.Fatalf("%+v: %v (%d, %d), want %v (%d)", m.Config(), brief(s.Tokens()), len(s.Tokens()), s.Len(), brief(text), len(text))
	}
	if s.memory.Len() != len(text) {
		t.Fatalf("%+v: a memory of %d places, want %d", m.Config(), s.memory.Len(), len(text))
	}
	for _, seed := range someSeeds {
		want, ok := 0, len(text) < room
		if ok {
			want = wantNext(m, seed, text)
		}
		if got, gotOK := s.Next(seed); got != want || gotOK != ok {
			t.Fatalf("%+v: behind %v (%d), by %d: %d, %v, want %d, %v", m.Config(), brief(text), len(text), seed, got, gotOK, want, ok)
		}
	}
}

// checkSame tells where two states are not the same, in all that they have.
func checkSame(t *testing.T, a, b *State) {
	t.Helper()
	if !slices.Equal(a.Tokens(), b.Tokens()) {
		t.Fatalf("%v (%d) and %v (%d)", brief(a.Tokens()), a.Len(), brief(b.Tokens()), b.Len())
	}
	if !slices.EqualFunc(a.made, b.made, slices.Equal[[]int64]) || !a.memory.Same(b.memory) {
		t.Fatalf("%v (%d): what came of it is not the same", brief(a.Tokens()), a.Len())
	}
	for _, seed := range someSeeds {
		x, okX := a.Next(seed)
		if y, okY := b.Next(seed); x != y || okX != okY {
			t.Fatalf("%v (%d): %d, %v and %d, %v", brief(a.Tokens()), a.Len(), x, okX, y, okY)
		}
	}
}

// mustFeed is a state with tokens behind that it takes.
func mustFeed(t *testing.T, s *State, tokens ...int) *State {
	t.Helper()
	for _, token := range tokens {
		next, err := s.Feed(token)
		if err != api.OK {
			t.Fatalf("Feed(%d) behind %d: %v", token, s.Len(), err)
		}
		s = next
	}
	return s
}

// mustNew is a model's state at its beginning.
func mustNew(t *testing.T, m *model.Model) *State {
	t.Helper()
	s, err := New(m)
	if err != api.OK {
		t.Fatal(err)
	}
	return s
}

// someModels are those of the tasks, each once.
func someModels(t *testing.T) []*model.Model {
	t.Helper()
	var all []*model.Model
	var seen []api.Config
	for _, k := range tasks() {
		if !slices.Contains(seen, k.config) {
			seen = append(seen, k.config)
			all = append(all, modelOf(t, k.config))
		}
	}
	return all
}

// someText are n tokens of a model.
func someText(m *model.Model, n int) []int {
	text := make([]int, n)
	for i := range text {
		text[i] = (i*i*5 + i*3 + 1) % m.Config().Vocab
	}
	return text
}

// TestNew (P12.2): no model is refused; else the text is the token 0.
func TestNew(t *testing.T) {
	for name, m := range noModels() {
		if s, err := New(m); s != nil || err != api.ErrNil {
			t.Errorf("%s: %v", name, err)
		}
	}
	for _, m := range someModels(t) {
		checkState(t, m, mustNew(t, m), []int{0})
	}
}

// TestFeed (P12.2): each token goes behind the text, and what comes of it is as if all had been gone through anew.
func TestFeed(t *testing.T) {
	for _, m := range someModels(t) {
		s, text := mustNew(t, m), []int{0}
		for _, token := range someText(m, 20) {
			s, text = mustFeed(t, s, token), append(text, token)
			checkState(t, m, s, text)
		}
	}
}

// TestFeedErrors (P12.2): what is no token is refused, ahead of a text that is full.
func TestFeedErrors(t *testing.T) {
	for _, m := range someModels(t) {
		vocab := m.Config().Vocab
		s := mustNew(t, m)
		full := mustFeed(t, s, make([]int, room-1)...)
		fewer := full.Cut(room - 1)
		for _, token := range []int{math.MinInt, -1 << 32, -2, -1, vocab, vocab + 1, 64, 256, 1 << 32, math.MaxInt} {
			for _, state := range []*State{s, fewer, full} {
				if next, err := state.Feed(token); next != nil || err != api.ErrArg {
					t.Fatalf("%+v: Feed(%d) behind %d: %v", m.Config(), token, state.Len(), err)
				}
			}
		}
		for _, token := range []int{0, 1, vocab - 1} {
			if next, err := full.Feed(token); next != nil || err != api.ErrMany {
				t.Fatalf("%+v: Feed(%d) of a full text: %v", m.Config(), token, err)
			}
			checkState(t, m, mustFeed(t, s, token), []int{0, token})
			checkState(t, m, mustFeed(t, fewer, token), append(make([]int, room-1), token))
		}
	}
}

// TestNextAtTheRoom (P12.2): a text of one fewer than MaxTokens has a next token; one that has as many has none.
func TestNextAtTheRoom(t *testing.T) {
	for _, m := range someModels(t) {
		text := append([]int{0}, someText(m, room-1)...)
		full := mustFeed(t, mustNew(t, m), text[1:]...)
		checkState(t, m, full, text)
		checkState(t, m, full.Cut(room-1), text[:room-1])
		for seed := range uint64(50) {
			if token, ok := full.Next(seed); token != 0 || ok {
				t.Fatalf("%+v: %d, %v", m.Config(), token, ok)
			}
			if token, ok := full.Cut(room - 1).Next(seed); token < 0 || token >= m.Config().Vocab || !ok {
				t.Fatalf("%+v: %d, %v", m.Config(), token, ok)
			}
		}
	}
}

// TestNextTellsStop (P12.2): the token 0 is told as any other one, with true; a text may go on behind it.
func TestNextTellsStop(t *testing.T) {
	told := 0
	for _, k := range tasks() {
		if k.why != byStop {
			continue
		}
		m := modelOf(t, k.config)
		s := mustStart(t, m, k.job, k.want)
		if token, ok := s.Next(k.job.Seed); token != 0 || !ok {
			t.Fatalf("%+v: %d, %v", k.config, token, ok)
		}
		checkState(t, m, mustFeed(t, s, 0, 1), append(textOf(k.job, k.want), 0, 1))
		told++
	}
	if told == 0 {
		t.Error("no text ends as 0 is told")
	}
}

// TestNoState (P12.2): a nil state, and one that nobody made, have nothing.
func TestNoState(t *testing.T) {
	for name, s := range map[string]*State{"nil": nil, "new": new(State), "literal": {}} {
		for _, n := range []int{math.MinInt, -1, 0, 1, 2, 255, 256, math.MaxInt} {
			if next, err := s.Feed(n); next != nil || err != api.ErrNil {
				t.Errorf("%s: Feed(%d): %v", name, n, err)
			}
			if s.Cut(n) != nil {
				t.Errorf("%s: Cut(%d) is something", name, n)
			}
			if token, ok := s.Next(uint64(n)); token != 0 || ok {
				t.Errorf("%s: Next: %d, %v", name, token, ok)
			}
		}
		if s.Len() != 0 || len(s.Tokens()) != 0 {
			t.Errorf("%s: %d, %v", name, s.Len(), s.Tokens())
		}
	}
}

// TestCut (P12.2): it is the state of the first n tokens, at least of 1, at most of all.
func TestCut(t *testing.T) {
	for _, m := range someModels(t) {
		text := append([]int{0}, someText(m, 12)...)
		s := mustFeed(t, mustNew(t, m), text[1:]...)
		for n, want := range map[int]int{
			math.MinInt: 1, -1 << 32: 1, -1: 1, 0: 1, 1: 1, 2: 2, 3: 3, 11: 11, 12: 12, 13: 13, 14: 13, 15: 13, 256: 13, 257: 13, 1 << 32: 13, math.MaxInt: 13,
		} {
			checkState(t, m, s.Cut(n), text[:want])
			checkSame(t, s.Cut(n), mustFeed(t, mustNew(t, m), text[1:want]...))
		}
		checkState(t, m, mustNew(t, m).Cut(0), []int{0})
		checkState(t, m, mustNew(t, m).Cut(9), []int{0})
	}
}

// TestCutAndFed (P12.5): at every place, what a text is cut to, and fed with again, is the same; so it is if others were fed in between.
func TestCutAndFed(t *testing.T) {
	for _, m := range someModels(t) {
		text := append([]int{0}, someText(m, 24)...)
		s := mustFeed(t, mustNew(t, m), text[1:]...)
		for n := 1; n <= len(text); n++ {
			cut := s.Cut(n)
			checkSame(t, mustFeed(t, cut, text[n:]...), s)
			other := mustFeed(t, cut, slices.Repeat([]int{1, 0}, 15)...)
			checkSame(t, mustFeed(t, other.Cut(n), text[n:]...), s)
			checkSame(t, mustFeed(t, cut, text[n:]...), s)
			for k := range n + 1 {
				checkSame(t, cut.Cut(k), s.Cut(k))
			}
		}
	}
}

// TestCutAndFedLong (P12.5): at every place of a text that has MaxTokens tokens.
func TestCutAndFedLong(t *testing.T) {
	m := modelOf(t, wide())
	text := append([]int{0}, someText(m, room-1)...)
	whole := mustFeed(t, mustNew(t, m), text[1:]...)
	for n := 1; n <= len(text); n++ {
		checkSame(t, mustFeed(t, whole.Cut(n), text[n:]...), whole)
	}
}

// TestStatesStay (P12.2): states stay as they are while others are fed, cut and told from beside them, at every length.
func TestStatesStay(t *testing.T) {
	m := modelOf(t, api.Config{Seed: 4, Vocab: 9, Dim: 3, Layers: 2, Top: 9, Heat: 8})
	text := append([]int{0}, someText(m, 40)...)
	type kept struct {
		s    *State
		text []int
	}
	var all []kept
	keep := func(s *State, text ...int) *State {
		all = append(all, kept{s, text})
		return s
	}
	s := keep(mustNew(t, m), 0)
	for n := 1; n < len(text); n++ {
		for token := range 3 {
			side := keep(mustFeed(t, s, token), slices.Concat(text[:n], []int{token})...)
			keep(mustFeed(t, side, 8-token), slices.Concat(text[:n], []int{token, 8 - token})...)
		}
		cut := keep(s.Cut(n/2), text[:max(n/2, 1)]...)
		keep(mustFeed(t, cut, 7, 7), slices.Concat(text[:max(n/2, 1)], []int{7, 7})...)
		j := api.Job{Seed: uint64(n), Prompt: text[1:n], Most: 3}
		told, behind, _ := From(m, j, s, 0, 3)
		keep(behind, slices.Concat(text[:n], told)...)
		s = keep(mustFeed(t, s, text[n]), text[:n+1]...)
	}
	for _, k := range all {
		checkState(t, m, k.s, k.text)
		checkSame(t, k.s, mustFeed(t, mustNew(t, m), k.text[1:]...))
	}
}

// TestRefusedFeeds (R7): what is refused turns nothing.
func TestRefusedFeeds(t *testing.T) {
	m := modelOf(t, wide())
	text := append([]int{0}, someText(m, room-1)...)
	full := mustFeed(t, mustNew(t, m), text[1:]...)
	for _, n := range []int{1, 2, 100, 255, 256} {
		s := full.Cut(n)
		for range 5 {
			s.Feed(-1)
			s.Feed(64)
			full.Feed(3)
		}
		checkState(t, m, s, text[:n])
		checkState(t, m, full, text)
	}
}

// TestTokensWrittenOver (R4): what Tokens answers may be written over.
func TestTokensWrittenOver(t *testing.T) {
	for _, m := range someModels(t) {
		text := append([]int{0}, someText(m, 9)...)
		s := mustFeed(t, mustNew(t, m), text[1:]...)
		cut := s.Cut(4)
		spoil(s.Tokens())
		spoil(cut.Tokens())
		_ = append(cut.Tokens(), 5)
		checkState(t, m, s, text)
		checkState(t, m, cut, text[:4])
		checkState(t, m, mustFeed(t, cut, 1), append(slices.Clone(text[:4]), 1))
	}
}
