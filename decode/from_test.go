package decode

import (
	"math"
	"slices"
	"testing"

	"garboard/api"
	"garboard/model"
)

// checkFrom tells where others follow behind the first n tokens of what follows than are wanted, at most most of them; it answers the state behind.
func checkFrom(t *testing.T, m *model.Model, j api.Job, s *State, all []int, n, most int) *State {
	t.Helper()
	to := min(n+max(most, 0), len(all))
	got, behind, over := From(m, j, s, n, most)
	if !slices.Equal(got, all[n:to]) {
		t.Fatalf("%+v: From(%d, %d) of %d: %v, want %v", m.Config(), n, most, len(all), got, all[n:to])
	}
	if over != (to == len(all)) {
		t.Fatalf("%+v: From(%d, %d) of %d: over is %v", m.Config(), n, most, len(all), over)
	}
	if !slices.Equal(behind.Tokens(), textOf(j, all[:to])) {
		t.Fatalf("%+v: From(%d, %d) of %d: the state behind has %d tokens", m.Config(), n, most, len(all), behind.Len())
	}
	return behind
}

// TestFromEdges (P12.3): nothing, the state itself, and true of a nil state, and of an n below 0 or not below Most.
func TestFromEdges(t *testing.T) {
	for _, k := range tasks() {
		m := modelOf(t, k.config)
		s := mustStart(t, m, k.job, nil)
		for _, n := range []int{math.MinInt, -1 << 32, -257, -2, -1, k.job.Most, k.job.Most + 1, 257, 1 << 32, math.MaxInt} {
			for _, most := range []int{math.MinInt, -1, 0, 1, 2, 256, math.MaxInt} {
				if got, behind, over := From(m, k.job, s, n, most); len(got) != 0 || behind != s || !over {
					t.Fatalf("From(%d, %d): %v, %v", n, most, got, over)
				}
			}
		}
		for _, none := range []*State{nil, new(State)} {
			for _, n := range []int{-1, 0, 1, k.job.Most - 1, k.job.Most, math.MaxInt} {
				for _, most := range []int{-1, 0, 1, 256} {
					if got, behind, over := From(m, k.job, none, n, most); len(got) != 0 || behind != none || !over {
						t.Fatalf("no state: From(%d, %d): %v, %v", n, most, got, over)
					}
				}
			}
		}
	}
}

// TestFromAtMost (P12.3): with a most of 0, 1, of about as many as follow, and of more; of a most below 0 as of 0.
func TestFromAtMost(t *testing.T) {
	for _, k := range tasks() {
		m := modelOf(t, k.config)
		all := len(k.want)
		s := mustStart(t, m, k.job, nil)
		for _, most := range []int{math.MinInt, -1, 0, 1, 2, all - 1, all, all + 1, 256, 257, math.MaxInt / 2} {
			checkFrom(t, m, k.job, s, k.want, 0, most)
		}
	}
}

// TestFromJustBelowMost (P12.3): behind as many tokens as Most, but one, one follows; it does behind none, too.
func TestFromJustBelowMost(t *testing.T) {
	for _, k := range tasks() {
		if k.why != byMost || len(k.want) == 0 {
			continue
		}
		m := modelOf(t, k.config)
		for _, n := range []int{0, k.job.Most - 1} {
			s := mustStart(t, m, k.job, k.want[:n])
			for _, most := range []int{0, 1, 2, 256} {
				checkFrom(t, m, k.job, s, k.want, n, most)
			}
		}
	}
}

// TestFromEnds (P12.3): that nothing follows any more is told with the last token, whyever that is so.
func TestFromEnds(t *testing.T) {
	whys := map[string]int{}
	for _, k := range tasks() {
		m := modelOf(t, k.config)
		s := mustStart(t, m, k.job, nil)
		if n := len(k.want); n > 0 {
			s = checkFrom(t, m, k.job, s, k.want, 0, n-1)
			s = checkFrom(t, m, k.job, s, k.want, n-1, 1)
			whys[k.why]++
		}
		for range 3 {
			s = checkFrom(t, m, k.job, s, k.want, len(k.want), 5)
		}
	}
	if len(whys) != 3 {
		t.Error(whys)
	}
}

// TestFromEveryPlace (P12.4): from every place of what follows its rest follows, by 1, 2 and more at a time, and the states behind are the same as if the text had been gone through anew.
func TestFromEveryPlace(t *testing.T) {
	for _, k := range tasks() {
		m := modelOf(t, k.config)
		whole := mustStart(t, m, k.job, k.want)
		for n := range len(k.want) + 1 {
			start := mustStart(t, m, k.job, k.want[:n])
			for _, most := range []int{1, 2, 3, 7, 256} {
				s := start
				for at := n; ; at = min(at+most, len(k.want)) {
					s = checkFrom(t, m, k.job, s, k.want, at, most)
					if at+most >= len(k.want) {
						break
					}
				}
				checkSame(t, s, whole)
			}
		}
	}
}

// TestFromLong (P12.4): so it is from every place of a text that has MaxTokens tokens in the end.
func TestFromLong(t *testing.T) {
	m, j := modelOf(t, wide()), api.Job{Seed: 1, Most: 256}
	all := mustRef(t, m, j)
	if len(all) != 255 {
		t.Fatal(len(all))
	}
	whole := mustStart(t, m, j, all)
	for n := range len(all) + 1 {
		s := whole.Cut(1 + n)
		checkFrom(t, m, j, s, all, n, 256)
		checkFrom(t, m, j, checkFrom(t, m, j, s, all, n, 1), all, min(n+1, len(all)), 2)
	}
}

// TestRestOfRef (P12.4): what follows behind the first k tokens of what follows, told so, is its rest: the draws hang on the places, and not on where the prompt ends.
func TestRestOfRef(t *testing.T) {
	for _, k := range tasks() {
		m := modelOf(t, k.config)
		for n := range len(k.want) + 1 {
			prompt := slices.Concat(k.job.Prompt, k.want[:n])
			checkRef(t, m, api.Job{Seed: k.job.Seed, Prompt: prompt, Most: k.job.Most - n}, k.want[n:], api.OK)
		}
	}
}

// TestLesserMost (P12.6): with every lesser Most less follows, and that is its beginning.
func TestLesserMost(t *testing.T) {
	for _, k := range tasks() {
		m := modelOf(t, k.config)
		for most := range min(len(k.want)+2, k.job.Most+1) {
			j := k.job
			j.Most = most
			checkRef(t, m, j, k.want[:min(most, len(k.want))], api.OK)
		}
	}
}

// TestLesserMostLong (P12.6): with every Most, of a text that has MaxTokens tokens in the end.
func TestLesserMostLong(t *testing.T) {
	m, j := modelOf(t, wide()), api.Job{Seed: 1, Most: 256}
	all := mustRef(t, m, j)
	for most := range 257 {
		j.Most = most
		checkRef(t, m, j, all[:min(most, len(all))], api.OK)
	}
}

// TestHangsOn (P12.6, R3): the same follows again, of another model of the same configuration, and behind other calls; not so with another seed, prompt or model.
func TestHangsOn(t *testing.T) {
	m, j := modelOf(t, wide()), api.Job{Seed: 1, Prompt: longPrompt(40), Most: 30}
	want := mustRef(t, m, j)
	for seed := uint64(2); seed < 10; seed++ {
		other := j
		other.Seed = seed
		if slices.Equal(mustRef(t, m, other), want) {
			t.Errorf("with the seed %d the same follows", seed)
		}
		other = j
		other.Prompt = longPrompt(40 + int(seed))
		if slices.Equal(mustRef(t, m, other), want) {
			t.Errorf("with %d tokens more the same follows", seed)
		}
		c := wide()
		c.Seed = seed
		if slices.Equal(mustRef(t, modelOf(t, c), j), want) {
			t.Errorf("with a model of the seed %d the same follows", seed)
		}
		checkRef(t, m, j, want, api.OK)
		checkRef(t, modelOf(t, wide()), j, want, api.OK)
	}
}

// roomy is a copy of a list with room behind it, in which the numbers 77 stand.
func roomy(l []int) []int {
	r := append(slices.Clone(l), 77, 77, 77, 77)
	return r[:len(l)]
}

// checkRoom tells whether a list is as it was, with the room behind it.
func checkRoom(t *testing.T, now, was []int) {
	t.Helper()
	if !slices.Equal(now[:len(was)+4], append(slices.Clone(was), 77, 77, 77, 77)) {
		t.Fatalf("%v was turned into %v", brief(was), brief(now[:len(was)+4]))
	}
}

// spoil writes over a list, and into the room behind it, if there is any.
func spoil(l []int) {
	all := l[:cap(l)]
	for i := range all {
		all[i] = -9
	}
}

// TestListsStay (R4): prompts and tokens that are handed in stay as they are, and are not kept; what is answered may be written over.
func TestListsStay(t *testing.T) {
	for _, k := range tasks() {
		m := modelOf(t, k.config)
		j, half := k.job, k.want[:len(k.want)/2]
		j.Prompt = roomy(k.job.Prompt)
		sofar := roomy(half)
		May(k.config, j)
		told := mustRef(t, m, j)
		s := mustStart(t, m, j, sofar)
		rest, behind, _ := From(m, j, s, len(half), 256)
		checkRoom(t, j.Prompt, k.job.Prompt)
		checkRoom(t, sofar, half)
		for _, l := range [][]int{told, rest, j.Prompt, sofar, s.Tokens(), behind.Tokens()} {
			spoil(l)
		}
		checkState(t, m, s, textOf(k.job, half))
		checkState(t, m, behind, textOf(k.job, k.want))
		checkFrom(t, m, k.job, s, k.want, len(half), 256)
	}
}

// TestFromAnyCall (R1): From ends, and does not panic, with any job and state, also with those that do not fit to each other.
func TestFromAnyCall(t *testing.T) {
	m, other := modelOf(t, wide()), modelOf(t, api.Config{Seed: 3, Vocab: 5, Dim: 2, Layers: 3, Top: 5, Heat: 8})
	states := []*State{nil, new(State), mustStart(t, m, api.Job{}, nil), mustStart(t, m, api.Job{Prompt: longPrompt(250)}, nil), mustStart(t, m, api.Job{Prompt: longPrompt(255)}, nil)}
	models := []*model.Model{m, other, nil, new(model.Model)}
	for _, most := range []int{math.MinInt, -1, 0, 1, 256, 257, math.MaxInt} {
		j := api.Job{Seed: 5, Prompt: []int{-1, 99}, Most: most}
		for _, s := range states {
			for _, n := range []int{math.MinInt, -1, 0, 3, math.MaxInt - 1, math.MaxInt} {
				for i, at := range []int{math.MinInt, -1, 0, 1, 9, math.MaxInt} {
					told, behind, _ := From(models[i%len(models)], j, s, n, at)
					if len(told) > max(at, 0) || len(told) > max(most, 0) || behind.Len() != s.Len()+len(told) {
						t.Fatalf("Most %d, From(%d, %d): %v", most, n, at, brief(told))
					}
				}
			}
		}
	}
}
