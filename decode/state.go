package decode

import (
	"slices"

	"garboard/api"
	"garboard/attn"
	"garboard/model"
	"garboard/sample"
	"garboard/vec"
)

// State is a text, as far as it went through the layers. It is never turned, so that others may share its lists.
type State struct {
	model  *model.Model
	tokens []int
	made   [][]int64 // what came of each place: any of them may be the last one of a text that is cut
	memory *attn.Memory
}

// New is a state at its beginning.
func New(m *model.Model) (*State, api.Errno) {
	if !isModel(m) {
		return nil, api.ErrNil
	}
	empty := &State{model: m, memory: attn.New(m.Config().Layers)}
	return empty.with(stop), api.OK
}

// Feed is a state with a token behind.
func (s *State) Feed(t int) (*State, api.Errno) {
	switch {
	case s.Len() == 0:
		return nil, api.ErrNil
	case !isToken(s.model.Config(), t):
		return nil, api.ErrArg
	case s.Len() == api.MaxTokens:
		return nil, api.ErrMany
	}
	return s.with(t), api.OK
}

// Next is the next token.
func (s *State) Next(seed uint64) (int, bool) {
	n := s.Len()
	if n == 0 || n == api.MaxTokens {
		return 0, false
	}
	return sample.Next(s.model, s.made[n-1], seed, uint64(n)), true
}

// Len is how many tokens the text has: none of a state that nobody made.
func (s *State) Len() int {
	if s == nil {
		return 0
	}
	return len(s.tokens)
}

// Tokens are these.
func (s *State) Tokens() []int {
	if s == nil {
		return nil
	}
	return slices.Clone(s.tokens)
}

// Cut is a state of the first tokens.
func (s *State) Cut(n int) *State {
	if s.Len() == 0 {
		return nil
	}
	n = max(1, min(n, s.Len()))
	return &State{model: s.model, tokens: first(s.tokens, n), made: first(s.made, n), memory: s.memory.Cut(n)}
}

// with is a state with a token behind; it is one, and there is room.
func (s *State) with(t int) *State {
	n := len(s.tokens)
	x := vec.Add(s.model.Token(t), s.model.Place(n))
	made, memory := attn.Through(s.model, s.memory, x)
	return &State{
		model:  s.model,
		tokens: append(first(s.tokens, n), t),
		made:   append(first(s.made, n), made),
		memory: memory,
	}
}

// feedAll is a state with all tokens of these lists behind.
func (s *State) feedAll(lists ...[]int) (*State, api.Errno) {
	for _, t := range slices.Concat(lists...) {
		next, err := s.Feed(t)
		if err != api.OK {
			return nil, err
		}
		s = next
	}
	return s, api.OK
}

// follows is the token that follows behind n tokens of a job's, and whether one does.
func (s *State) follows(j api.Job, n int) (int, bool) {
	if n < 0 || n >= j.Most {
		return 0, false
	}
	t, ok := s.Next(j.Seed)
	return t, ok && t != stop
}

// first are the first n of a list, without room behind them: what is added is never laid where another list has something, too.
func first[E any](list []E, n int) []E { return list[:n:n] }
