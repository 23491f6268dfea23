package engine

import (
	"math"
	"slices"
	"testing"

	"garboard/api"
	"garboard/msg"
)

// small is a configuration whose texts end soon, wide one whose texts are long and many-coloured.
func small() api.Config { return api.Config{Seed: 3, Vocab: 5, Dim: 2, Layers: 1, Top: 5, Heat: 8} }
func wide() api.Config  { return api.Config{Seed: 0, Vocab: 64, Dim: 3, Layers: 1, Top: 20, Heat: 8} }

// plain is a setting that may be.
func plain() Setting {
	return Setting{Config: wide(), Queue: 3, Batch: 2, Pages: 8, Size: 4, Chunk: 5}
}

// startOf is a Start of the first incarnation.
func startOf(number, n uint64, j api.Job) msg.Msg {
	return msg.Msg{Kind: msg.Start, Attempt: number, Inc: 1, N: n, Job: j}
}

// someJob is a job of which 30 tokens follow.
func someJob() api.Job { return api.Job{Seed: 1, Prompt: []int{7, 1, 63}, Most: 30} }

// refusedOf is the Over that a Start of the first incarnation is refused by.
func refusedOf(number, n uint64) []msg.Msg {
	return []msg.Msg{{Kind: msg.Over, Attempt: number, Inc: 1, N: n, Why: Refused}}
}

// notMade are replicas that New did not give.
func notMade() map[string]*Replica {
	refused, _ := New(Setting{Config: small()})
	return map[string]*Replica{"nil": nil, "new": new(Replica), "refused": refused}
}

// checkNew tells where New answers otherwise.
func checkNew(t *testing.T, s Setting, may bool) {
	t.Helper()
	r, err := New(s)
	if may && (r == nil || err != api.OK) || !may && (r != nil || err != api.ErrArg) {
		t.Errorf("New(%+v): %v, %v", s, r != nil, err)
	}
	if !may {
		return
	}
	if r.Inc() != 1 || r.Load() != 0 || len(r.Attempts()) != 0 || r.Drains() || r.Cached() != 0 {
		t.Errorf("%+v: %d, %d, %v, %v, %d", s, r.Inc(), r.Load(), r.Attempts(), r.Drains(), r.Cached())
	}
}

// TestNewEdges (P15.1): each number at its bounds and beyond.
func TestNewEdges(t *testing.T) {
	far := []int{math.MinInt, -1 << 32, -16, -1, 1<<32 + 1, math.MaxInt}
	for _, n := range append([]int{0, 1, 2, 15, 16, 17, 63, 64, 65, 66, 255, 256, 257, 258}, far...) {
		s := plain()
		s.Queue = n
		checkNew(t, s, 1 <= n && n <= 64)
		s = plain()
		s.Batch = n
		checkNew(t, s, 1 <= n && n <= 16)
		s = plain()
		s.Chunk = n
		checkNew(t, s, 1 <= n && n <= 16)
		s = plain()
		s.Size = n
		checkNew(t, s, 1 <= n && n <= 16)
		s.Pages = 0
		checkNew(t, s, true)
		s = plain()
		s.Pages = n
		checkNew(t, s, 0 <= n && n <= 256)
		s.Size = 0
		checkNew(t, s, n == 0)
		s.Size = 17
		checkNew(t, s, n == 0)
	}
	checkNew(t, Setting{Config: small(), Queue: 1, Batch: 1, Chunk: 1}, true)
	checkNew(t, Setting{Config: small(), Queue: 1, Batch: 1, Pages: 1, Size: 1, Chunk: 1}, true)
	checkNew(t, Setting{Config: small(), Queue: 64, Batch: 16, Pages: 256, Size: 16, Chunk: 16}, true)
	checkNew(t, Setting{}, false)
}

// TestNewConfig (P15.1): a configuration that may not be is none, with a cache and without one.
func TestNewConfig(t *testing.T) {
	bad := []func(c *api.Config){
		func(c *api.Config) { *c = api.Config{} },
		func(c *api.Config) { c.Vocab = 1 },
		func(c *api.Config) { c.Vocab = 65 },
		func(c *api.Config) { c.Dim = 0 },
		func(c *api.Config) { c.Dim = 17 },
		func(c *api.Config) { c.Layers = 0 },
		func(c *api.Config) { c.Layers = 5 },
		func(c *api.Config) { c.Top = 0 },
		func(c *api.Config) { c.Top = 65 },
		func(c *api.Config) { c.Heat = -1 },
		func(c *api.Config) { c.Heat = 9 },
	}
	for _, pages := range []int{0, 1, 256} {
		for _, turn := range bad {
			s := plain()
			s.Pages = pages
			turn(&s.Config)
			checkNew(t, s, false)
		}
		s := plain()
		s.Pages = pages
		s.Config = api.Config{Seed: math.MaxUint64, Vocab: 2, Dim: 1, Layers: 1, Top: 2}
		checkNew(t, s, true)
		s.Config = api.Config{Vocab: 64, Dim: 16, Layers: 4, Top: 64, Heat: 8}
		checkNew(t, s, true)
	}
}

// TestProbe (P15.2): a Pong tells of the Probe's N, the incarnation, and how many places are taken: none, some, all; in the queue and in the batch alike.
func TestProbe(t *testing.T) {
	p := newPair(t, plain(), newRefs(t, wide()))
	probe := func(n uint64, count uint64) {
		t.Helper()
		got := p.arrive(t, msg.Msg{Kind: msg.Probe, N: n})
		checkTold(t, got, []msg.Msg{{Kind: msg.Pong, N: n, Inc: p.replica.Inc(), Count: count}})
	}
	for _, n := range []uint64{0, 1, 7, 1 << 63, math.MaxUint64} {
		probe(n, 0)
	}
	for i := range uint64(3) {
		p.arrive(t, startOf(i, 0, someJob()))
		probe(i, i+1)
	}
	p.step(t)
	probe(5, 3)
	for i := range uint64(2) {
		p.arrive(t, startOf(3+i, 0, someJob()))
		probe(i, 4+i)
	}
	// Queue and batch have no place any more.
	checkTold(t, p.arrive(t, startOf(9, 0, someJob())), refusedOf(9, 0))
	probe(math.MaxUint64, 5)
	p.arrive(t, msg.Msg{Kind: msg.Drain, Inc: 1})
	probe(6, 5)
	p.crash(t)
	probe(8, 0)
}

// TestStartThere (P15.2): a Start whose number is there tells nothing and changes nothing, waiting or in the batch, whatever its job is; also if it would be refused.
func TestStartThere(t *testing.T) {
	p := newPair(t, plain(), newRefs(t, wide()))
	other := []msg.Msg{
		startOf(4, 0, someJob()),
		startOf(4, 3, api.Job{Seed: 9, Prompt: []int{1}, Most: 5}),
		startOf(4, 0, api.Job{Most: -1}),
		startOf(4, 99, api.Job{Most: 3}),
	}
	again := func() {
		t.Helper()
		for _, m := range other {
			checkTold(t, p.arrive(t, m), nil)
		}
	}
	p.arrive(t, startOf(4, 2, someJob()))
	again()
	p.arrive(t, startOf(5, 2, someJob()))
	p.arrive(t, startOf(6, 2, someJob()))
	again()
	p.step(t)
	again()
	p.arrive(t, msg.Msg{Kind: msg.Drain, Inc: 1})
	again()
	for p.replica.Load() > 0 {
		p.step(t)
	}
	// It is over: the number is there no more.
	checkTold(t, p.arrive(t, other[0]), refusedOf(4, 0))
}

// TestStartAfterOver (P15.2, P15.6): a number that is over may be another attempt's.
func TestStartAfterOver(t *testing.T) {
	p := newPair(t, plain(), newRefs(t, wide()))
	for range 3 {
		p.arrive(t, startOf(4, 25, someJob()))
		if p.replica.Load() != 1 {
			t.Fatal("it does not wait")
		}
		checkOver(t, p.step(t), 1)
		if p.replica.Load() != 0 {
			t.Fatal("it is there still")
		}
	}
}

// checkOver tells if there is not just so many an Over among messages, each with Done.
func checkOver(t *testing.T, told []msg.Msg, want int) {
	t.Helper()
	n := 0
	for _, m := range told {
		if m.Kind == msg.Over && m.Why == Done {
			n++
		}
	}
	if n != want {
		t.Fatalf("%d are over, want %d: %+v", n, want, told)
	}
}

// badJobs are jobs that may not be for 64 tokens.
func badJobs() []api.Job {
	jobs := []api.Job{{Prompt: make([]int, 256), Most: 3}, {Prompt: make([]int, 1<<20), Most: 3}}
	for _, most := range []int{math.MinInt, -1 << 32, -1, 257, 1 << 32, math.MaxInt} {
		jobs = append(jobs, api.Job{Most: most}, api.Job{Prompt: []int{1}, Most: most})
	}
	for _, token := range []int{math.MinInt, -1, 64, 65, math.MaxInt} {
		jobs = append(jobs, api.Job{Prompt: []int{token}, Most: 3}, api.Job{Prompt: []int{1, token, 2}, Most: 3}, api.Job{Prompt: []int{1, 2, token}})
	}
	return jobs
}

// TestStartBadJob (P15.2): a job that may not be is refused, and nothing waits; its own Vocab counts.
func TestStartBadJob(t *testing.T) {
	p := newPair(t, plain(), newRefs(t, wide()))
	for _, j := range badJobs() {
		for _, n := range []uint64{0, 1, math.MaxUint64} {
			checkTold(t, p.arrive(t, startOf(8, n, j)), refusedOf(8, n))
		}
	}
	set := plain()
	set.Config = small()
	p = newPair(t, set, newRefs(t, small()))
	checkTold(t, p.arrive(t, startOf(8, 0, api.Job{Prompt: []int{4, 5}, Most: 3})), refusedOf(8, 0))
	checkTold(t, p.arrive(t, startOf(8, 0, api.Job{Prompt: []int{4, 0}, Most: 3})), nil)
	if p.replica.Load() != 1 {
		t.Error("it does not wait")
	}
}

// TestStartN (P15.2): N may be up to Most, and no more.
func TestStartN(t *testing.T) {
	p := newPair(t, plain(), newRefs(t, wide()))
	for _, most := range []int{0, 1, 30, 200, 255} {
		j := api.Job{Seed: 1, Most: most}
		for _, n := range []uint64{uint64(most) + 1, uint64(most) + 2, 256, 257, 1 << 32, 1 << 63, math.MaxUint64 - 1, math.MaxUint64} {
			checkTold(t, p.arrive(t, startOf(2, n, j)), refusedOf(2, n))
		}
		checkTold(t, p.arrive(t, startOf(2, uint64(most), j)), nil)
		if p.replica.Load() != 1 {
			t.Fatalf("Most %d: it does not wait", most)
		}
		checkTold(t, p.step(t), []msg.Msg{{Kind: msg.Over, Attempt: 2, Inc: 1, N: uint64(most), Why: Done}})
	}
}

// TestStartRoom (P15.2): the text, that is the token 0, the prompt, and N tokens more, may have MaxTokens tokens, and no more.
func TestStartRoom(t *testing.T) {
	p := newPair(t, plain(), newRefs(t, wide()))
	for _, prompt := range []int{0, 1, 100, 254, 255} {
		j := api.Job{Seed: 1, Prompt: make([]int, prompt), Most: 256}
		for i := range j.Prompt {
			j.Prompt[i] = (7*i + 3) % 64
		}
		full := uint64(255 - prompt)
		for _, n := range []uint64{full + 1, full + 2, 256} {
			checkTold(t, p.arrive(t, startOf(2, n, j)), refusedOf(2, n))
		}
		checkTold(t, p.arrive(t, startOf(2, full, j)), nil)
		if p.replica.Load() != 1 {
			t.Fatalf("%d, %d: it does not wait", prompt, full)
		}
		checkTold(t, p.step(t), []msg.Msg{{Kind: msg.Over, Attempt: 2, Inc: 1, N: full, Why: Done}})
	}
}

// TestStartDraining (P15.2): while it drains all are refused, but those that are there go on to their ends.
func TestStartDraining(t *testing.T) {
	p := newPair(t, plain(), newRefs(t, wide()))
	for i := range uint64(3) {
		p.arrive(t, startOf(i, 0, someJob()))
	}
	p.step(t)
	checkTold(t, p.arrive(t, msg.Msg{Kind: msg.Drain, Inc: 1}), nil)
	if !p.replica.Drains() {
		t.Fatal("it does not drain")
	}
	checkTold(t, p.arrive(t, msg.Msg{Kind: msg.Drain, Inc: 1}), nil)
	over := 0
	for p.replica.Load() > 0 {
		checkTold(t, p.arrive(t, startOf(9, 4, someJob())), refusedOf(9, 4))
		for _, m := range p.step(t) {
			if m.Kind == msg.Over {
				over++
			}
		}
	}
	checkTold(t, p.arrive(t, startOf(9, 4, someJob())), refusedOf(9, 4))
	if over != 3 || !p.replica.Drains() {
		t.Error(over, p.replica.Drains())
	}
}

// TestStartFull (P15.2): of every queue just as many wait as it has places, also when the batch has places; those refused come in when others went.
func TestStartFull(t *testing.T) {
	for _, queue := range []int{1, 2, 5, 63, 64} {
		for _, batch := range []int{1, 3, 16} {
			set := Setting{Config: wide(), Queue: queue, Batch: batch, Chunk: 1}
			p := newPair(t, set, newRefs(t, wide()))
			next := uint64(0)
			// Twice the queue is filled up, ahead of a Step and behind it.
			for range 2 {
				for p.book.count(false) < queue {
					checkTold(t, p.arrive(t, startOf(next, 0, api.Job{Seed: 3, Most: 4})), nil)
					next++
				}
				checkTold(t, p.arrive(t, startOf(next, 0, api.Job{Seed: 3, Most: 4})), refusedOf(next, 0))
				p.step(t)
			}
			if p.book.count(true) != min(batch, 2*queue) {
				t.Fatalf("%d in the batch", p.book.count(true))
			}
			for p.book.count(false) == queue {
				checkTold(t, p.arrive(t, startOf(next, 0, api.Job{Seed: 3, Most: 4})), refusedOf(next, 0))
				p.step(t)
			}
			checkTold(t, p.arrive(t, startOf(next, 0, api.Job{Seed: 3, Most: 4})), nil)
			if !slices.Contains(p.replica.Attempts(), next) {
				t.Fatal("it does not wait, though others went into the batch")
			}
		}
	}
}

// TestQuit (P15.2, P15.6): a Quit lets one go that waits and one in the batch, and none else; nothing is told of it any more, and its number may come again, from the queue's end on.
func TestQuit(t *testing.T) {
	p := newPair(t, plain(), newRefs(t, wide()))
	quit := func(number uint64) {
		t.Helper()
		checkTold(t, p.arrive(t, msg.Msg{Kind: msg.Quit, Attempt: number, Inc: 1}), nil)
	}
	quit(1)
	for i := range uint64(3) {
		p.arrive(t, startOf(i, 0, someJob()))
	}
	quit(7)
	quit(1)
	if !slices.Equal(p.replica.Attempts(), []uint64{0, 2}) {
		t.Fatal(p.replica.Attempts())
	}
	quit(1)
	p.arrive(t, startOf(1, 6, someJob()))
	p.step(t)
	if !slices.Equal(p.replica.batch, []uint64{0, 2}) || !slices.Equal(p.replica.queue, []uint64{1}) {
		t.Fatal(p.replica.batch, p.replica.queue)
	}
	quit(0)
	for _, m := range p.step(t) {
		if m.Attempt == 0 {
			t.Fatalf("told of behind a Quit: %+v", m)
		}
	}
	p.arrive(t, startOf(0, 0, someJob()))
	quit(1)
	// What was known of the first one is not known of the next one of its number.
	for _, m := range p.step(t) {
		if m.Attempt == 0 && m.N != 0 {
			t.Fatalf("%+v", m)
		}
	}
	quit(2)
	quit(0)
	checkTold(t, p.step(t), nil)
	if p.replica.Cached() != 0 {
		t.Error("a text that did not come to its end was put")
	}
}

// TestOtherIncarnation (P15.2): a Start of another incarnation is told to be Gone, with that incarnation, whether or not its number is there, and whatever its job is; Quit and Drain do nothing.
func TestOtherIncarnation(t *testing.T) {
	p := newPair(t, plain(), newRefs(t, wide()))
	for range 3 {
		inc := p.replica.Inc()
		m := startOf(1, 0, someJob())
		m.Inc = inc
		p.arrive(t, m)
		for _, other := range []uint64{0, inc - 1, inc + 1, inc + 256, inc + 1<<32, 1 << 63, math.MaxUint64} {
			for _, number := range []uint64{1, 2} {
				for _, j := range []api.Job{someJob(), {Most: -1}} {
					got := p.arrive(t, msg.Msg{Kind: msg.Start, Attempt: number, Inc: other, N: 77, Job: j})
					checkTold(t, got, []msg.Msg{{Kind: msg.Over, Attempt: number, Inc: other, N: 77, Why: Gone}})
				}
				checkTold(t, p.arrive(t, msg.Msg{Kind: msg.Quit, Attempt: number, Inc: other}), nil)
			}
			checkTold(t, p.arrive(t, msg.Msg{Kind: msg.Drain, Inc: other}), nil)
			if p.replica.Load() != 1 || p.replica.Drains() {
				t.Fatal(p.replica.Load(), p.replica.Drains())
			}
		}
		p.crash(t)
	}
}

// TestOtherKinds (P15.2): all other kinds, and numbers that are none, do nothing and tell nothing.
func TestOtherKinds(t *testing.T) {
	p := newPair(t, plain(), newRefs(t, wide()))
	p.arrive(t, startOf(1, 0, someJob()))
	p.step(t)
	p.arrive(t, startOf(2, 0, someJob()))
	kinds := []int{msg.Ask, msg.Got, msg.Stop, msg.Tokens, msg.End, msg.Emit, msg.Over, msg.Pong, 0, 13, 14, 64, -1, -6, 6 + 1<<32, math.MinInt, math.MaxInt}
	for _, kind := range kinds {
		for _, inc := range []uint64{0, 1, 2} {
			for _, number := range []uint64{0, 1, 2, 3} {
				m := msg.Msg{Kind: kind, Stream: number, Session: 1, Attempt: number, Inc: inc, N: 3, Count: 1, Why: 1, Job: someJob(), List: []int{1}}
				checkTold(t, p.arrive(t, m), nil)
				checkTold(t, p.arrive(t, msg.Msg{Kind: kind, Attempt: number, Inc: inc}), nil)
			}
		}
	}
}

// TestCrash (P15.4): with attempts that wait and that are in the batch, a cache that has entries, and while it drains: all of that is gone, and what comes then goes on as at a new one.
func TestCrash(t *testing.T) {
	p := newPair(t, plain(), newRefs(t, wide()))
	for range 4 {
		inc := p.replica.Inc()
		p.arrive(t, msg.Msg{Kind: msg.Start, Attempt: 9, Inc: inc, N: 30, Job: someJob()})
		p.step(t)
		for i := range uint64(3) {
			p.arrive(t, msg.Msg{Kind: msg.Start, Attempt: i, Inc: inc, Job: someJob()})
		}
		p.step(t)
		p.arrive(t, msg.Msg{Kind: msg.Drain, Inc: inc})
		r := p.replica
		if r.Cached() != 8 || len(r.batch) != 2 || len(r.queue) != 1 || !r.Drains() {
			t.Fatal(r.Cached(), r.batch, r.queue, r.Drains())
		}
		p.crash(t)
		if r.Inc() != inc+1 || r.Load() != 0 || len(r.Attempts()) != 0 || r.Drains() || r.Cached() != 0 {
			t.Fatal(r.Inc(), r.Load(), r.Attempts(), r.Drains(), r.Cached())
		}
		checkTold(t, p.step(t), nil)
		// The old incarnation's attempts are Gone as they are asked for again, and the numbers are free.
		p.arrive(t, msg.Msg{Kind: msg.Start, Attempt: 1, Inc: inc, N: 3, Job: someJob()})
		p.arrive(t, msg.Msg{Kind: msg.Start, Attempt: 1, Inc: inc + 1, N: 3, Job: someJob()})
		for p.replica.Load() > 0 {
			for _, m := range p.step(t) {
				if m.Inc != inc+1 {
					t.Fatalf("%+v", m)
				}
			}
		}
		p.crash(t)
	}
}

// TestGreatestIncarnation (P15.4): at 2^63 a crash lets all go too, and the incarnation stays.
func TestGreatestIncarnation(t *testing.T) {
	r := mustNew(t, plain())
	r.inc = 1<<63 - 2
	for _, want := range []uint64{1<<63 - 1, 1 << 63, 1 << 63, 1 << 63} {
		inc := r.Inc()
		for i := range uint64(3) {
			checkTold(t, r.Arrive(msg.Msg{Kind: msg.Start, Attempt: i, Inc: inc, N: 30 - 15*(i%2), Job: someJob()}), nil)
		}
		checkOver(t, r.Step(), 1)
		r.Arrive(msg.Msg{Kind: msg.Drain, Inc: inc})
		if r.Load() != 2 || r.Cached() == 0 || !r.Drains() {
			t.Fatal(r.Load(), r.Cached(), r.Drains())
		}
		if got := r.Crash(); got != want || r.Inc() != want {
			t.Fatalf("Crash at %d: %d, %d, want %d", inc, got, r.Inc(), want)
		}
		if r.Load() != 0 || len(r.Attempts()) != 0 || r.Cached() != 0 || r.Drains() || len(r.Step()) != 0 {
			t.Fatal(r.Load(), r.Attempts(), r.Cached(), r.Drains())
		}
	}
}

// TestNotMade (P15.4): a nil replica, and one that New did not give, tells nothing, whatever is called, in any order.
func TestNotMade(t *testing.T) {
	for name, r := range notMade() {
		for range 2 {
			for kind := -1; kind <= 13; kind++ {
				for _, inc := range []uint64{0, 1} {
					if got := r.Arrive(msg.Msg{Kind: kind, Attempt: 1, Inc: inc, N: 1, Job: api.Job{Most: 1}}); len(got) != 0 {
						t.Errorf("%s: Arrive: %+v", name, got)
					}
				}
			}
			if got := r.Step(); len(got) != 0 {
				t.Errorf("%s: Step: %+v", name, got)
			}
			if r.Inc() != 0 || r.Load() != 0 || len(r.Attempts()) != 0 || r.Drains() || r.Cached() != 0 {
				t.Errorf("%s: %d, %d, %v, %v, %d", name, r.Inc(), r.Load(), r.Attempts(), r.Drains(), r.Cached())
			}
			if got := r.Crash(); got != 0 {
				t.Errorf("%s: Crash: %d", name, got)
			}
		}
	}
}

// TestListsAreApart (R4): a prompt that is written over behind its Start, and answers that are written over, turn nothing else.
func TestListsAreApart(t *testing.T) {
	p := newPair(t, plain(), newRefs(t, wide()))
	j := someJob()
	j.Prompt = append(make([]int, 0, 64), j.Prompt...)
	p.arrive(t, startOf(1, 0, j))
	p.arrive(t, startOf(2, 0, j))
	clear(j.Prompt[:cap(j.Prompt)])
	var kept []msg.Msg
	for p.replica.Load() > 0 {
		clear(p.replica.Attempts())
		for _, m := range p.step(t) {
			kept = append(kept, m)
			for i := range m.List {
				m.List[i] = -1
			}
			m.List = append(m.List, -1)
		}
	}
	for _, m := range kept {
		if slices.ContainsFunc(m.List, func(t int) bool { return t != -1 }) {
			t.Fatalf("%+v", m)
		}
	}
	if !slices.Equal(j.Prompt, make([]int, 3)) {
		t.Error(j.Prompt)
	}
	// The cache has what was told, not what was written.
	p.arrive(t, startOf(3, 0, someJob()))
	for p.replica.Load() > 0 {
		p.step(t)
	}
}
