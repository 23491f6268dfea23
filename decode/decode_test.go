package decode

import (
	"math"
	"slices"
	"testing"

	"garboard/api"
	"garboard/attn"
	"garboard/model"
	"garboard/sample"
	"garboard/vec"
)

// room is how many tokens a text has at most.
const room = 256

// Why nothing follows any more.
const (
	byStop = "0 is told"
	byMost = "as many as Most followed"
	byRoom = "the text has MaxTokens tokens"
)

// task is a job for a configuration, and what it comes to, as it was reckoned elsewhere, with whole numbers of any size.
type task struct {
	config api.Config
	job    api.Job
	why    string
	want   []int
}

// longPrompt has n tokens, of 64.
func longPrompt(n int) []int {
	prompt := make([]int, n)
	for i := range prompt {
		prompt[i] = (7*i + 3) % 64
	}
	return prompt
}

// wide is a configuration whose texts are long and many-coloured.
func wide() api.Config { return api.Config{Seed: 0, Vocab: 64, Dim: 3, Layers: 1, Top: 20, Heat: 8} }

// tasks are jobs for models of the least and the greatest fields and ordinary ones, with all ways to end.
func tasks() []task {
	least := api.Config{Seed: 1, Vocab: 2, Dim: 1, Layers: 1, Top: 1, Heat: 0}
	small := api.Config{Seed: 3, Vocab: 5, Dim: 2, Layers: 1, Top: 5, Heat: 8}
	other := api.Config{Seed: 2, Vocab: 5, Dim: 2, Layers: 1, Top: 5, Heat: 8}
	ends := api.Config{Seed: math.MaxUint64, Vocab: 33, Dim: 7, Layers: 3, Top: 4, Heat: 1}
	return []task{
		{small, api.Job{Seed: 1, Prompt: []int{1, 2}, Most: 3}, byStop, []int{1, 1}},
		{small, api.Job{Seed: 11, Prompt: []int{1, 4}, Most: 9}, byStop, []int{1, 4, 1, 4, 2, 1, 2}},
		{small, api.Job{Seed: 2, Most: 256}, byStop, []int{4, 3, 2, 1, 4, 3, 2}},
		{small, api.Job{Seed: 2, Most: 7}, byMost, []int{4, 3, 2, 1, 4, 3, 2}},
		{small, api.Job{Seed: 2, Most: 1}, byMost, []int{4}},
		{small, api.Job{Seed: 2, Most: 0}, byMost, nil},
		{least, api.Job{Most: 256}, byStop, slices.Repeat([]int{1}, 25)},
		{other, api.Job{Seed: 1, Prompt: []int{1, 4, 0}, Most: 255}, byStop, []int{3, 2, 2, 1, 1, 3, 3, 2, 1, 4, 1, 1, 2, 1, 2, 2, 1, 1, 4, 1, 4, 4, 4, 2, 4}},
		{api.Config{Seed: 5, Vocab: 9, Dim: 3, Layers: 2, Top: 5, Heat: 4}, api.Job{Most: 256}, byStop, []int{1, 2, 3, 5, 8, 8, 6, 7}},
		{api.Config{Seed: 1, Vocab: 33, Dim: 5, Layers: 2, Top: 33, Heat: 8}, api.Job{Seed: 1, Prompt: []int{1, 32, 0}, Most: 256}, byStop, []int{6, 1, 16, 24, 22, 7, 15, 1, 12, 11, 11, 20, 26, 13, 26, 6, 32, 22, 11, 20, 12, 5, 11, 22, 5}},
		{api.Config{Seed: 2, Vocab: 20, Dim: 4, Layers: 3, Top: 1, Heat: 8}, api.Job{Seed: 9, Most: 256}, byStop, []int{19, 19, 19, 19, 19, 15, 15, 15, 15, 15, 15, 15, 15, 15}},
		{api.Config{Seed: 0, Vocab: 64, Dim: 16, Layers: 4, Top: 64, Heat: 8}, api.Job{Seed: 1, Prompt: []int{1, 63, 0}, Most: 256}, byStop, []int{20, 11, 9, 8, 14, 6, 55}},
		{api.Config{Seed: 10, Vocab: 64, Dim: 16, Layers: 4, Top: 8, Heat: 2}, api.Job{Seed: 7, Prompt: []int{63, 1, 0, 5}, Most: 20}, byMost, []int{50, 50, 50, 50, 50, 50, 13, 59, 59, 49, 50, 31, 50, 50, 31, 31, 31, 50, 50, 31}},
		{ends, api.Job{Seed: math.MaxUint64, Prompt: []int{32, 0, 0, 32}, Most: 30}, byMost, []int{21, 21, 21, 21, 21, 21, 7, 7, 13, 7, 23, 7, 13, 7, 31, 13, 25, 23, 13, 25, 23, 26, 22, 5, 27, 23, 7, 25, 28, 13}},
		{wide(), api.Job{Seed: 1, Prompt: longPrompt(245), Most: 256}, byRoom, []int{48, 39, 16, 38, 11, 58, 53, 29, 12, 60}},
		{wide(), api.Job{Seed: 1, Prompt: longPrompt(245), Most: 10}, byMost, []int{48, 39, 16, 38, 11, 58, 53, 29, 12, 60}},
		{wide(), api.Job{Seed: 1, Prompt: longPrompt(254), Most: 256}, byRoom, []int{4}},
		{wide(), api.Job{Seed: 1, Prompt: longPrompt(255), Most: 256}, byRoom, nil},
	}
}

// modelOf is a configuration's model.
func modelOf(t *testing.T, c api.Config) *model.Model {
	t.Helper()
	m, err := model.New(c)
	if err != api.OK {
		t.Fatal(err)
	}
	return m
}

// noModels are models that are none.
func noModels() map[string]*model.Model {
	refused, _ := model.New(api.Config{Seed: 1, Vocab: 1, Dim: 1, Layers: 1, Top: 1})
	return map[string]*model.Model{"nil": nil, "new": new(model.Model), "refused": refused}
}

// wantNext is the token that is told behind a text, which goes through the layers anew, place by place.
func wantNext(m *model.Model, seed uint64, text []int) int {
	layers := m.Config().Layers
	keys, values := make([][][]int64, layers), make([][][]int64, layers)
	var x []int64
	for place, token := range text {
		x = vec.Add(m.Token(token), m.Place(place))
		for layer := range layers {
			var key, value []int64
			x, key, value = attn.Step(m, layer, x, keys[layer], values[layer])
			keys[layer] = append(keys[layer], key)
			values[layer] = append(values[layer], value)
		}
	}
	return sample.Next(m, x, seed, uint64(len(text)))
}

// textOf is a job's text, with some tokens behind.
func textOf(j api.Job, behind []int) []int {
	return slices.Concat([]int{0}, j.Prompt, behind)
}

// wantFollows is what follows, as the chapter's words say, and why nothing follows any more.
func wantFollows(m *model.Model, j api.Job) (told []int, why string) {
	for {
		text := textOf(j, told)
		if len(told) == j.Most {
			return told, byMost
		}
		if len(text) == room {
			return told, byRoom
		}
		token := wantNext(m, j.Seed, text)
		if token == 0 {
			return told, byStop
		}
		told = append(told, token)
	}
}

// brief is the beginning of a list that is too long to be shown.
func brief[E any](l []E) []E { return l[:min(len(l), 6)] }

// checkRef tells where another text follows than is wanted.
func checkRef(t *testing.T, m *model.Model, j api.Job, want []int, wantErr api.Errno) {
	t.Helper()
	got, err := Ref(m, j)
	if !slices.Equal(got, want) || err != wantErr {
		t.Fatalf("%+v: Ref(%d, %v (%d), %d): %v, %v, want %v, %v", m.Config(), j.Seed, brief(j.Prompt), len(j.Prompt), j.Most, got, err, want, wantErr)
	}
}

// mustRef is what follows a job that may be.
func mustRef(t *testing.T, m *model.Model, j api.Job) []int {
	t.Helper()
	told, err := Ref(m, j)
	if err != api.OK {
		t.Fatal(err)
	}
	return told
}

// mustStart is a state of a job that may be, with tokens behind that may follow.
func mustStart(t *testing.T, m *model.Model, j api.Job, sofar []int) *State {
	t.Helper()
	s, err := Start(m, j, sofar)
	if err != api.OK {
		t.Fatal(err)
	}
	return s
}

// badJobs are jobs that may not be for 5 tokens.
func badJobs() []api.Job {
	jobs := []api.Job{
		{Prompt: make([]int, 256), Most: 3},
		{Prompt: make([]int, 257), Most: 3},
		{Prompt: make([]int, 1<<20), Most: 3},
		{Prompt: slices.Repeat([]int{-1}, 300), Most: -1},
	}
	for _, most := range []int{math.MinInt, -1 << 32, -257, -2, -1, 257, 258, 1 << 32, math.MaxInt} {
		jobs = append(jobs, api.Job{Prompt: []int{1, 2}, Most: most}, api.Job{Most: most})
	}
	for _, token := range []int{math.MinInt, -1 << 32, -5, -1, 5, 6, 64, 1 << 32, math.MaxInt} {
		for _, prompt := range [][]int{{token}, {token, 1, 2}, {1, token, 2}, {1, 2, token}, append(make([]int, 254), token), append([]int{token}, make([]int, 254)...)} {
			jobs = append(jobs, api.Job{Prompt: prompt, Most: 3})
		}
	}
	return jobs
}

// TestMay (P12.1): prompts, tokens and numbers at their bounds may be, and none beyond.
func TestMay(t *testing.T) {
	five := api.Config{Seed: 3, Vocab: 5, Dim: 2, Layers: 1, Top: 5, Heat: 8}
	for _, j := range badJobs() {
		if May(five, j) {
			t.Errorf("%v (%d), %d: it may be", brief(j.Prompt), len(j.Prompt), j.Most)
		}
	}
	for _, prompt := range [][]int{nil, {}, {0}, {4}, {0, 1, 2, 3, 4}, {4, 1, 0}, make([]int, 254), make([]int, 255), slices.Repeat([]int{4}, 255)} {
		for _, most := range []int{0, 1, 2, 100, 255, 256} {
			for _, seed := range []uint64{0, 1, math.MaxUint64} {
				if !May(five, api.Job{Seed: seed, Prompt: prompt, Most: most}) {
					t.Errorf("%v (%d), %d: it may not be", brief(prompt), len(prompt), most)
				}
			}
		}
	}
}

// TestMayEveryToken (P12.1): of every Vocab just the tokens from 0 to Vocab - 1 may be, at the first and the last place.
func TestMayEveryToken(t *testing.T) {
	for vocab := 2; vocab <= 64; vocab++ {
		c := api.Config{Vocab: vocab, Dim: 1, Layers: 1, Top: 1}
		for token := -2; token <= 66; token++ {
			want := 0 <= token && token < vocab
			for _, prompt := range [][]int{{token}, {token, 0, 1}, {0, 1, token}} {
				if got := May(c, api.Job{Prompt: prompt, Most: 1}); got != want {
					t.Fatalf("Vocab %d: %v: %v", vocab, prompt, got)
				}
			}
		}
	}
}

// TestRefErrors (P12.1): no model is named ahead of a job that may not be.
func TestRefErrors(t *testing.T) {
	five := modelOf(t, api.Config{Seed: 3, Vocab: 5, Dim: 2, Layers: 1, Top: 5, Heat: 8})
	for _, j := range badJobs() {
		checkRef(t, five, j, nil, api.ErrArg)
		for _, m := range noModels() {
			checkRef(t, m, j, nil, api.ErrNil)
		}
	}
	for _, m := range noModels() {
		checkRef(t, m, api.Job{}, nil, api.ErrNil)
		checkRef(t, m, api.Job{Prompt: []int{0}, Most: 3}, nil, api.ErrNil)
	}
}

// TestRefReckoned (P12.1): what follows is what was reckoned elsewhere.
func TestRefReckoned(t *testing.T) {
	for _, k := range tasks() {
		checkRef(t, modelOf(t, k.config), k.job, k.want, api.OK)
	}
}

// TestRefByWords (P12.1): what follows is what the chapter's words tell, the whole text anew for each token, and ends for the same reason.
func TestRefByWords(t *testing.T) {
	whys := map[string]int{}
	for _, k := range tasks() {
		m := modelOf(t, k.config)
		want, why := wantFollows(m, k.job)
		checkRef(t, m, k.job, want, api.OK)
		if why != k.why {
			t.Errorf("%+v: it ended as %s, and not as %s", k.config, why, k.why)
		}
		whys[why]++
	}
	if len(whys) != 3 {
		t.Error(whys)
	}
}

// TestManyRefsByWords (P12.1): many models, seeds, prompts and numbers of tokens.
func TestManyRefsByWords(t *testing.T) {
	whys := map[string]int{}
	for seed := range uint64(60) {
		c := api.Config{Seed: seed, Vocab: 2 + int(seed*seed%63), Dim: 1 + int(seed%7), Layers: 1 + int(seed%4), Heat: int(seed % 9)}
		c.Top = 1 + int(seed*7)%c.Vocab
		m := modelOf(t, c)
		for n := range 3 {
			j := api.Job{Seed: seed << n, Most: []int{12, 3, 40}[n]}
			for i := range n * int(seed%5) {
				j.Prompt = append(j.Prompt, i*int(seed)%c.Vocab)
			}
			want, why := wantFollows(m, j)
			checkRef(t, m, j, want, api.OK)
			whys[why]++
		}
	}
	if whys[byStop] < 20 || whys[byMost] < 20 {
		t.Error(whys)
	}
}

// TestRefToTheRoom (P12.1): texts that go on until they have MaxTokens tokens, from an empty prompt on; with a Most of as many as follow, and of fewer.
func TestRefToTheRoom(t *testing.T) {
	for _, c := range []api.Config{wide(), {Seed: 3, Vocab: 20, Dim: 2, Layers: 2, Top: 20, Heat: 0}} {
		m := modelOf(t, c)
		j := api.Job{Seed: 1, Most: 256}
		want, why := wantFollows(m, j)
		if why != byRoom || len(want) != 255 {
			t.Fatalf("%+v: it ended as %s, with %d tokens", c, why, len(want))
		}
		checkRef(t, m, j, want, api.OK)
		for _, most := range []int{255, 254, 253} {
			j.Most = most
			checkRef(t, m, j, want[:most], api.OK)
		}
	}
}

// TestExample (P12.1): Most 0: nothing follows.
func TestExample(t *testing.T) {
	for _, k := range tasks() {
		k.job.Most = 0
		checkRef(t, modelOf(t, k.config), k.job, nil, api.OK)
	}
}

// TestPlacesCount (P12.1): a draw hangs on the place that the next token takes, the token 0 and the prompt counted.
func TestPlacesCount(t *testing.T) {
	m := modelOf(t, api.Config{Seed: 6, Vocab: 64, Dim: 2, Layers: 1, Top: 64, Heat: 8})
	like := 0
	for n := range 20 {
		j := api.Job{Seed: 4, Prompt: longPrompt(n), Most: 1}
		x := mustStart(t, m, j, nil).made[n]
		want := []int{sample.Next(m, x, 4, uint64(n+1))}
		if want[0] == 0 {
			want = nil
		}
		checkRef(t, m, j, want, api.OK)
		if sample.Next(m, x, 4, uint64(n)) == sample.Next(m, x, 4, uint64(n+1)) {
			like++
		}
	}
	if like > 15 {
		t.Error("places play hardly a part: the test tells nothing")
	}
}

// TestStartErrors (P12.3): Ref's errors come first, then too many tokens, then one that is none.
func TestStartErrors(t *testing.T) {
	five := modelOf(t, api.Config{Seed: 3, Vocab: 5, Dim: 2, Layers: 1, Top: 5, Heat: 8})
	wrong := [][]int{nil, {1}, {5}, {-1, 1, 1, 1}, make([]int, 300)}
	for _, j := range badJobs() {
		for _, sofar := range wrong {
			if s, err := Start(five, j, sofar); s != nil || err != api.ErrArg {
				t.Errorf("%v (%d), %d: %v", brief(j.Prompt), len(j.Prompt), j.Most, err)
			}
			for none, m := range noModels() {
				if s, err := Start(m, j, sofar); s != nil || err != api.ErrNil {
					t.Errorf("%s: %v (%d), %d: %v", none, brief(j.Prompt), len(j.Prompt), j.Most, err)
				}
			}
		}
	}
	for none, m := range noModels() {
		for _, sofar := range wrong {
			if s, err := Start(m, api.Job{Most: 3}, sofar); s != nil || err != api.ErrNil {
				t.Errorf("%s: %v", none, err)
			}
		}
	}
}

// TestStartSofar (P12.3): sofar has at most as many tokens as Most, and no more than have room; each of them is a token.
func TestStartSofar(t *testing.T) {
	five := modelOf(t, api.Config{Seed: 3, Vocab: 5, Dim: 2, Layers: 1, Top: 5, Heat: 8})
	for _, c := range []struct {
		prompt, most int
		sofar        []int
		want         api.Errno
	}{
		{0, 0, nil, api.OK}, {0, 0, []int{}, api.OK}, {0, 0, []int{1}, api.ErrMany}, {0, 0, []int{5}, api.ErrMany},
		{2, 3, []int{1, 2}, api.OK}, {2, 3, []int{1, 2, 3}, api.OK}, {2, 3, []int{1, 2, 3, 4}, api.ErrMany}, {2, 3, []int{-1, 2, 3, 4}, api.ErrMany},
		{2, 3, []int{0, 0, 0}, api.OK}, {2, 3, []int{4, 4, 4}, api.OK}, {2, 3, make([]int, 1000), api.ErrMany},
		{2, 3, []int{-1}, api.ErrArg}, {2, 3, []int{5}, api.ErrArg}, {2, 3, []int{5, 1, 1}, api.ErrArg}, {2, 3, []int{1, 1, -1}, api.ErrArg}, {2, 3, []int{1, 5, 1}, api.ErrArg},
		{2, 3, []int{math.MaxInt}, api.ErrArg}, {2, 3, []int{math.MinInt}, api.ErrArg},
		{0, 256, make([]int, 255), api.OK}, {0, 255, make([]int, 255), api.OK}, {0, 256, make([]int, 256), api.ErrMany}, {0, 254, make([]int, 255), api.ErrMany},
		{0, 256, append(make([]int, 254), 5), api.ErrArg}, {0, 256, append(make([]int, 255), 5), api.ErrMany},
		{1, 256, make([]int, 254), api.OK}, {1, 256, make([]int, 255), api.ErrMany},
		{254, 256, []int{1}, api.OK}, {254, 256, []int{5}, api.ErrArg}, {254, 256, []int{1, 1}, api.ErrMany},
		{255, 256, nil, api.OK}, {255, 256, []int{1}, api.ErrMany}, {255, 256, []int{5}, api.ErrMany},
	} {
		j := api.Job{Seed: 1, Prompt: make([]int, c.prompt), Most: c.most}
		s, err := Start(five, j, c.sofar)
		if err != c.want || (s != nil) != (err == api.OK) {
			t.Errorf("a prompt of %d, Most %d, %v (%d): %v, want %v", c.prompt, c.most, brief(c.sofar), len(c.sofar), err, c.want)
		}
		if err == api.OK && !slices.Equal(s.Tokens(), textOf(j, c.sofar)) {
			t.Errorf("a prompt of %d, Most %d, %v: %v", c.prompt, c.most, brief(c.sofar), brief(s.Tokens()))
		}
	}
}

// TestStartState (P12.3): it is the state of the token 0, the prompt and sofar, fed one behind the other.
func TestStartState(t *testing.T) {
	for _, k := range tasks() {
		m := modelOf(t, k.config)
		for n := range len(k.want) + 1 {
			checkState(t, m, mustStart(t, m, k.job, k.want[:n]), textOf(k.job, k.want[:n]))
		}
	}
	// Tokens that do not follow may be so far, too.
	m, j := modelOf(t, wide()), api.Job{Seed: 3, Prompt: []int{5, 0, 63}, Most: 9}
	checkState(t, m, mustStart(t, m, j, []int{0, 63, 0, 1}), []int{0, 5, 0, 63, 0, 63, 0, 1})
}
