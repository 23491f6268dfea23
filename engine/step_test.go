package engine

import (
	"slices"
	"testing"

	"garboard/api"
	"garboard/decode"
	"garboard/model"
	"garboard/msg"
)

// longPrompt has n tokens, of 64.
func longPrompt(n int) []int {
	prompt := make([]int, n)
	for i := range prompt {
		prompt[i] = (7*i + 3) % 64
	}
	return prompt
}

// task is a job for a configuration, with how many tokens follow.
type task struct {
	config api.Config
	job    api.Job
	many   int
}

// tasks are jobs of which something follows until 0 is told, until there are Most, and until the text has MaxTokens tokens.
func tasks() []task {
	return []task{
		{small(), api.Job{Seed: 2, Most: 256}, 7},
		{small(), api.Job{Seed: 11, Prompt: []int{1, 4}, Most: 9}, 7},
		{small(), api.Job{Seed: 2, Most: 7}, 7},
		{wide(), api.Job{Seed: 1, Prompt: []int{7, 1, 63}, Most: 12}, 12},
		{wide(), api.Job{Seed: 1, Prompt: longPrompt(245), Most: 256}, 10},
		{wide(), api.Job{Seed: 1, Prompt: longPrompt(254), Most: 256}, 1},
		{wide(), api.Job{Seed: 1, Prompt: longPrompt(255), Most: 256}, 0},
		{wide(), api.Job{Seed: 1, Prompt: longPrompt(20), Most: 0}, 0},
		{wide(), api.Job{Seed: 1, Prompt: longPrompt(20), Most: 1}, 1},
		{api.Config{Seed: 10, Vocab: 64, Dim: 16, Layers: 4, Top: 8, Heat: 2}, api.Job{Seed: 7, Prompt: []int{63, 1, 0, 5}, Most: 20}, 20},
	}
}

// allOf steps a replica of one attempt to its end: what it emits, in order, and its Over.
func allOf(t *testing.T, r *Replica, number, n uint64) (told []int, over msg.Msg, steps int) {
	t.Helper()
	for r.Load() > 0 {
		steps++
		if steps > 300 {
			t.Fatal("it does not end")
		}
		for _, m := range r.Step() {
			switch {
			case m.Attempt != number || m.Inc != r.Inc() || over.Kind != 0:
				t.Fatalf("%+v", m)
			case m.Kind == msg.Over:
				over = m
			case m.Kind != msg.Emit || m.N != n+uint64(len(told)) || len(m.List) == 0:
				t.Fatalf("%+v behind %v", m, told)
			}
			told = append(told, m.List...)
		}
	}
	return told, over, steps
}

// TestExample (the chapter's example): a Start, and Steps: Emits from N on, and an Over.
func TestExample(t *testing.T) {
	r := mustNew(t, Setting{Config: small(), Queue: 1, Batch: 1, Chunk: 3})
	// What follows is 1, 4, 1, 4, 2, 1, 2.
	checkTold(t, r.Arrive(startOf(6, 2, api.Job{Seed: 11, Prompt: []int{1, 4}, Most: 9})), nil)
	checkTold(t, r.Step(), []msg.Msg{{Kind: msg.Emit, Attempt: 6, Inc: 1, N: 2, List: []int{1, 4, 2}}})
	checkTold(t, r.Step(), []msg.Msg{
		{Kind: msg.Emit, Attempt: 6, Inc: 1, N: 5, List: []int{1, 2}},
		{Kind: msg.Over, Attempt: 6, Inc: 1, N: 7, Why: Done},
	})
	checkTold(t, r.Step(), nil)
}

// TestStepOfNothing (P15.3): with nothing to do nothing is told, and nothing changes.
func TestStepOfNothing(t *testing.T) {
	p := newPair(t, plain(), newRefs(t, wide()))
	for range 3 {
		checkTold(t, p.step(t), nil)
	}
	p.arrive(t, msg.Msg{Kind: msg.Drain, Inc: 1})
	checkTold(t, p.step(t), nil)
}

// TestChunks (P15.3): what follows is told in Chunks of every size, the last one with the Over: with fewer tokens than a Chunk, just one and one more, whatever ends it.
func TestChunks(t *testing.T) {
	for _, k := range tasks() {
		all := newRefs(t, k.config).of(t, k.job)
		if len(all) != k.many {
			t.Fatalf("%+v: %d follow, want %d", k.job, len(all), k.many)
		}
		for chunk := 1; chunk <= 16; chunk++ {
			r := mustNew(t, Setting{Config: k.config, Queue: 1, Batch: 1, Chunk: chunk})
			r.Arrive(startOf(3, 0, k.job))
			told, over, steps := allOf(t, r, 3, 0)
			if !slices.Equal(told, all) || over.N != uint64(len(all)) || over.Why != Done {
				t.Fatalf("Chunk %d: %v, %+v, want %v", chunk, told, over, all)
			}
			// The last tokens and the Over come with one Step; nothing is told in one alone.
			if want := max(1, (len(all)+chunk-1)/chunk); steps != want {
				t.Fatalf("Chunk %d, %d tokens: %d steps, want %d", chunk, len(all), steps, want)
			}
		}
	}
}

// TestChunkIsFull (P15.3): each Emit but the last one has Chunk tokens.
func TestChunkIsFull(t *testing.T) {
	for chunk := 1; chunk <= 16; chunk++ {
		r := mustNew(t, Setting{Config: wide(), Queue: 1, Batch: 1, Chunk: chunk})
		r.Arrive(startOf(3, 1, someJob()))
		for left := 29; left > 0; left -= chunk {
			told := r.Step()
			if len(told[0].List) != min(chunk, left) || len(told) != 1+btoi(left <= chunk) {
				t.Fatalf("Chunk %d, %d left: %+v", chunk, left, told)
			}
		}
	}
}

// btoi is 1 of what holds.
func btoi(b bool) int {
	if b {
		return 1
	}
	return 0
}

// TestEveryN (P15.3, P15.5): from every place on, within what follows, just all of it and more than it, the rest is told, and the Over tells how many are known: N, if fewer follow.
func TestEveryN(t *testing.T) {
	for _, k := range tasks() {
		all := newRefs(t, k.config).of(t, k.job)
		most := min(k.job.Most, 255-len(k.job.Prompt), len(all)+5)
		for n := 0; n <= most; n++ {
			r := mustNew(t, Setting{Config: k.config, Queue: 1, Batch: 1, Chunk: 1 + n%7})
			r.Arrive(startOf(3, uint64(n), k.job))
			told, over, _ := allOf(t, r, 3, uint64(n))
			if !slices.Equal(told, all[min(n, len(all)):]) || over.N != uint64(max(n, len(all))) || over.Why != Done {
				t.Fatalf("from %d: %v, %+v, want of %v", n, told, over, all)
			}
		}
	}
}

// TestLongestWaitsFirst (P15.3): with more attempts than the batch has places those that wait longest come first, whatever their numbers, and what is told keeps that order.
func TestLongestWaitsFirst(t *testing.T) {
	for batch := 1; batch <= 16; batch++ {
		set := Setting{Config: wide(), Queue: 40, Batch: batch, Chunk: 2}
		p := newPair(t, set, newRefs(t, wide()))
		var order []uint64
		for i := range uint64(40) {
			// The numbers neither rise nor fall.
			number := (i*17 + 5) % 40
			order = append(order, number)
			p.arrive(t, startOf(number, 0, api.Job{Seed: 5, Prompt: []int{9}, Most: 5}))
		}
		var ended []uint64
		for len(ended) < 40 {
			// All are of one length, so that as many come as the batch has, and go together, in three steps.
			want := order[len(ended):min(40, len(ended)+batch)]
			for step := range 3 {
				var emits, overs []uint64
				for _, m := range p.step(t) {
					if m.Kind == msg.Over {
						overs = append(overs, m.Attempt)
					} else {
						emits = append(emits, m.Attempt)
					}
				}
				if !slices.Equal(emits, want) || step < 2 && len(overs) > 0 || step == 2 && !slices.Equal(overs, want) {
					t.Fatalf("Batch %d, step %d: %v, %v, want %v", batch, step, emits, overs, want)
				}
			}
			ended = append(ended, want...)
		}
		checkTold(t, p.step(t), nil)
	}
}

// TestEndInTheMidst (P15.3): an attempt that ends in the midst of a batch leaves the others in their order, and its place is another's with the next Step.
func TestEndInTheMidst(t *testing.T) {
	set := Setting{Config: wide(), Queue: 6, Batch: 4, Chunk: 3}
	p := newPair(t, set, newRefs(t, wide()))
	for i, most := range []int{9, 3, 9, 6, 9, 9} {
		p.arrive(t, startOf(uint64(9-i), 0, api.Job{Seed: 1, Prompt: []int{i}, Most: most}))
	}
	orders := [][]uint64{{9, 8, 8, 7, 6}, {9, 7, 6, 6, 5}, {9, 9, 7, 7, 5, 4}, {5, 5, 4}, {4, 4}, nil}
	for step, want := range orders {
		var got []uint64
		for _, m := range p.step(t) {
			got = append(got, m.Attempt)
		}
		if !slices.Equal(got, want) {
			t.Fatalf("step %d: %v, want %v", step, got, want)
		}
	}
}

// textsOf are the beginnings of a job's whole text that a cache of pages of a size has.
func textsOf(j api.Job, all []int, size int) [][]int {
	text := slices.Concat([]int{0}, j.Prompt, all)
	var texts [][]int
	for n := size; n <= len(text); n += size {
		texts = append(texts, text[:n])
	}
	return texts
}

// TestTextIsPut (P15.3): as it ends, and not before, its text is put: the prompt and all that follows, from whatever place on it was told, also if N is more than follows.
func TestTextIsPut(t *testing.T) {
	for _, k := range tasks() {
		all := newRefs(t, k.config).of(t, k.job)
		for _, size := range []int{1, 3, 16} {
			for _, n := range []int{0, 1, len(all), len(all) + 1} {
				if n > k.job.Most || n+len(k.job.Prompt) > 255 {
					continue
				}
				r := mustNew(t, Setting{Config: k.config, Queue: 1, Batch: 1, Pages: 256, Size: size, Chunk: 4})
				r.Arrive(startOf(3, uint64(n), k.job))
				for steps := 0; r.Load() > 0; steps++ {
					if r.Cached() != 0 || steps > 300 {
						t.Fatal("it is put ahead of its end, or does not end")
					}
					r.Step()
				}
				texts := textsOf(k.job, all, size)
				if r.Cached() != len(texts) {
					t.Fatalf("Size %d, from %d: %d entries, want %d", size, n, r.Cached(), len(texts))
				}
				for _, text := range texts {
					if !r.cache.Has(text) {
						t.Fatalf("Size %d, from %d: %v is not there", size, n, text)
					}
				}
			}
		}
	}
}

// TestCacheIsUsed (P15.3): what is in the cache is not gone through anew: of a text whose beginning another model went through, which no replica does, that model's tokens follow.
func TestCacheIsUsed(t *testing.T) {
	other := wide()
	other.Seed = 77
	m, err := model.New(other)
	if err != api.OK {
		t.Fatal(err)
	}
	j := api.Job{Seed: 4, Prompt: longPrompt(20), Most: 30}
	want, _ := decode.Ref(m, j)
	own := newRefs(t, wide()).of(t, j)
	if len(want) < 10 || slices.Equal(want, own) {
		t.Fatal(want, own)
	}
	for _, size := range []int{1, 3, 7} {
		for _, n := range []uint64{0, 5} {
			r := mustNew(t, Setting{Config: wide(), Queue: 1, Batch: 1, Pages: 30, Size: size, Chunk: 4})
			s, _ := decode.Start(m, j, nil)
			r.cache.Put(s)
			r.Arrive(startOf(1, n, j))
			told, _, _ := allOf(t, r, 1, n)
			if !slices.Equal(told, want[n:]) {
				t.Fatalf("Size %d, from %d: %v, want %v", size, n, told, want[n:])
			}
			// Behind a crash it goes through all by itself.
			r.Crash()
			r.Arrive(msg.Msg{Kind: msg.Start, Attempt: 1, Inc: 2, N: n, Job: j})
			if told, _, _ = allOf(t, r, 1, n); !slices.Equal(told, own[n:]) {
				t.Fatalf("Size %d, from %d: %v, want %v", size, n, told, own[n:])
			}
		}
	}
}
