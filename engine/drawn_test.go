package engine

import (
	"math"
	"slices"
	"testing"

	"garboard/api"
	"garboard/msg"
	"garboard/rand"
)

// draw is a number below most.
func draw(s *rand.Source, most int) int { return int(s.Next() % uint64(most)) }

// oneOf is one of some numbers.
func oneOf(s *rand.Source, numbers ...uint64) uint64 { return numbers[draw(s, len(numbers))] }

// settings are replicas with few and many places, with no cache, one so small that entries go, and one with room for all.
func settings(c api.Config) []Setting {
	return []Setting{
		{c, 1, 1, 0, 0, 1},
		{c, 1, 1, 1, 1, 16},
		{c, 1, 16, 3, 2, 2},
		{c, 2, 1, 4, 1, 3},
		{c, 2, 3, 0, 99, 4},
		{c, 3, 2, 6, 3, 1},
		{c, 4, 4, 12, 2, 5},
		{c, 5, 2, 256, 1, 2},
		{c, 8, 5, 20, 4, 3},
		{c, 16, 16, 256, 16, 8},
		{c, 64, 1, 2, 16, 16},
		{c, 64, 16, 40, 5, 7},
	}
}

// drawJob is a job of few blocks, so that prompts have beginnings in common; at times it may not be.
func drawJob(s *rand.Source, c api.Config) api.Job {
	j := api.Job{Seed: uint64(draw(s, 3)), Most: draw(s, 14)}
	for range draw(s, 4) {
		token := draw(s, 3)
		j.Prompt = append(j.Prompt, token, 1, (token+1)%c.Vocab)
	}
	switch draw(s, 40) {
	case 0:
		j.Most = 257
	case 1:
		j.Most = -1
	case 2:
		j.Prompt = append(j.Prompt, c.Vocab)
	case 3:
		j.Prompt = slices.Repeat([]int{1}, 256)
	case 4:
		j.Prompt = slices.Repeat([]int{1}, 250)
	case 5:
		j.Most = 256
	}
	return j
}

// drawN is from which on a job is to be told: most times within it.
func drawN(s *rand.Source, j api.Job) uint64 {
	switch draw(s, 12) {
	case 0:
		return uint64(max(0, j.Most))
	case 1:
		return uint64(max(0, j.Most)) + 1
	case 2:
		return oneOf(s, 6, 256, 257, 1<<63, math.MaxUint64)
	case 3, 4, 5, 6:
		return uint64(draw(s, max(1, min(j.Most, 14))))
	}
	return 0
}

// drawNumber is an attempt's number, of few, so that they meet.
func drawNumber(s *rand.Source, set Setting) uint64 {
	if draw(s, 20) == 0 {
		return oneOf(s, 0, 1<<63, math.MaxUint64)
	}
	return uint64(draw(s, 2*(set.Queue+set.Batch)))
}

// drawInc is an incarnation, most times this one.
func drawInc(s *rand.Source, inc uint64) uint64 {
	if draw(s, 10) == 0 {
		return oneOf(s, 0, inc-1, inc+1, inc+1<<32, math.MaxUint64)
	}
	return inc
}

// drawMsg is a message for a replica.
func drawMsg(s *rand.Source, set Setting, inc uint64) msg.Msg {
	m := msg.Msg{Attempt: drawNumber(s, set), Inc: drawInc(s, inc)}
	switch at := draw(s, 100); {
	case at < 60:
		m.Kind, m.Job = msg.Start, drawJob(s, set.Config)
		m.N = drawN(s, m.Job)
	case at < 80:
		m.Kind = msg.Quit
	case at < 82:
		m.Kind = msg.Drain
	case at < 90:
		m.Kind, m.N = msg.Probe, s.Next()
	default:
		m.Kind = draw(s, 16) - 1
		m.Job, m.N = drawJob(s, set.Config), uint64(draw(s, 3))
	}
	return m
}

// watch is what P15.6 and P15.7 say, by what is told alone.
type watch struct {
	set   Setting
	alive map[uint64]int // of each attempt that is there how many tokens are known
	inc   uint64
	told  map[string]int
}

// arrived notes a message, and what was told of it.
func (w *watch) arrived(t *testing.T, m msg.Msg, told []msg.Msg) {
	t.Helper()
	_, there := w.alive[m.Attempt]
	switch {
	case m.Kind == msg.Start && m.Inc == w.inc && !there && len(told) == 0:
		w.alive[m.Attempt] = int(m.N)
		w.told["taken"]++
	case m.Kind == msg.Start && m.Inc == w.inc && there:
		if len(told) > 0 {
			t.Fatalf("told to be over, though it is there: %+v", told)
		}
		w.told["there"]++
	case m.Kind == msg.Start && m.Inc == w.inc:
		w.told["refused"]++
	case m.Kind == msg.Start:
		w.told["gone"]++
	case m.Kind == msg.Quit && m.Inc == w.inc && there:
		delete(w.alive, m.Attempt)
		w.told["quit"]++
	}
}

// stepped notes what a Step told: of none that is not there, of none behind its Over, and of each token once, in order.
func (w *watch) stepped(t *testing.T, told []msg.Msg) {
	t.Helper()
	for _, m := range told {
		known, there := w.alive[m.Attempt]
		if !there || m.Inc != w.inc || int(m.N) != known {
			t.Fatalf("%+v: there %v, known %d", m, there, known)
		}
		switch {
		case m.Kind == msg.Emit && 0 < len(m.List) && len(m.List) <= w.set.Chunk:
			w.alive[m.Attempt] += len(m.List)
			w.told["emit"]++
		case m.Kind == msg.Over && m.Why == Done:
			delete(w.alive, m.Attempt)
			w.told["done"]++
		default:
			t.Fatalf("%+v", m)
		}
	}
}

// check holds how many attempts there are against the places (P15.7), and against those that are there.
func (w *watch) check(t *testing.T, r *Replica) {
	t.Helper()
	if r.Load() > w.set.Queue+w.set.Batch || len(r.queue) > w.set.Queue || len(r.batch) > w.set.Batch {
		t.Fatalf("%d, %d, %d of %+v", r.Load(), len(r.queue), len(r.batch), w.set)
	}
	if r.Load() != len(w.alive) || len(r.Attempts()) != len(w.alive) {
		t.Fatalf("%d attempts, want %d", r.Load(), len(w.alive))
	}
	if r.Load() == w.set.Queue+w.set.Batch {
		w.told["full"]++
	}
}

// drawnCall does one call to a replica and its book, and notes it.
func drawnCall(t *testing.T, s *rand.Source, p pair, w *watch) {
	t.Helper()
	switch at := draw(s, 200); {
	case at == 0 || at < 20 && p.replica.Drains():
		p.crash(t)
		clear(w.alive)
		w.inc++
		w.told["crash"]++
	case at < 70:
		w.stepped(t, p.step(t))
	default:
		m := drawMsg(s, w.set, w.inc)
		w.arrived(t, m, p.arrive(t, m))
	}
	w.check(t, p.replica)
}

// TestDrawnOrders (P15.2 to P15.7): calls in drawn orders tell what the chapter's words say, and leave behind what they say of each attempt; none is told of behind its end, a Quit or a crash, and there are never more than places.
func TestDrawnOrders(t *testing.T) {
	met := map[string]int{}
	for at, c := range []api.Config{small(), wide()} {
		k := newRefs(t, c)
		for i, set := range settings(c) {
			for seed := range uint64(3) {
				s := rand.New(rand.Derive(seed, uint64(at), uint64(i)))
				p := newPair(t, set, k)
				w := &watch{set: set, alive: map[uint64]int{}, inc: 1, told: met}
				for range 700 {
					drawnCall(t, s, p, w)
				}
			}
		}
	}
	for _, what := range []string{"taken", "there", "refused", "gone", "quit", "emit", "done", "crash", "full"} {
		if met[what] < 100 {
			t.Errorf("%s: %d times", what, met[what])
		}
	}
}

// TestSameCallsSame (R3): two replicas of one setting, with the same calls, tell the same.
func TestSameCallsSame(t *testing.T) {
	set := Setting{wide(), 5, 3, 10, 2, 4}
	a, b := mustNew(t, set), mustNew(t, set)
	s := rand.New(5)
	for range 600 {
		switch at := draw(s, 100); {
		case at < 1:
			if a.Crash() != b.Crash() {
				t.Fatal("unlike incarnations")
			}
		case at < 30:
			checkTold(t, a.Step(), b.Step())
		default:
			m := drawMsg(s, set, a.Inc())
			checkTold(t, a.Arrive(m), b.Arrive(m))
		}
		if !slices.Equal(a.Attempts(), b.Attempts()) || a.Cached() != b.Cached() || a.Drains() != b.Drains() {
			t.Fatal(a.Attempts(), b.Attempts(), a.Cached(), b.Cached(), a.Drains(), b.Drains())
		}
	}
}

// caches are no cache, one so small that entries go, and ones with room for all.
func caches(set Setting) []Setting {
	var all []Setting
	for _, c := range [][2]int{{0, 0}, {1, 1}, {2, 3}, {5, 2}, {256, 1}, {256, 4}, {256, 16}} {
		set.Pages, set.Size = c[0], c[1]
		all = append(all, set)
	}
	return all
}

// TestTellsWhatFollows (P15.5): many jobs, from every place on, one by one and in batches of many, with no cache, a cold one, one that is warm from the others and one in which entries go: what each tells is what follows there, and no more.
func TestTellsWhatFollows(t *testing.T) {
	for _, c := range []api.Config{small(), {Seed: 8, Vocab: 33, Dim: 4, Layers: 2, Top: 33, Heat: 8}} {
		k := newRefs(t, c)
		for _, batch := range []int{1, 3, 16} {
			for _, set := range caches(Setting{Config: c, Queue: 64, Batch: batch, Chunk: 3}) {
				tellRounds(t, mustNew(t, set), k, 3)
			}
		}
	}
}

// tellRounds has a replica tell jobs from every place on, again and again, so that its cache is cold first and warm then.
func tellRounds(t *testing.T, r *Replica, k refs, rounds int) {
	t.Helper()
	for round := range rounds {
		var starts []msg.Msg
		for i, prompt := range [][]int{nil, {1}, {1, 2}, {1, 2, 3, 4}, {1, 2, 3, 4, 0, 1}, {4, 4, 1}} {
			j := api.Job{Seed: uint64(i * round % 4), Prompt: prompt, Most: 11}
			for n := range len(k.of(t, j)) + 2 {
				if n <= j.Most {
					starts = append(starts, startOf(uint64(len(starts)), uint64(n), j))
				}
			}
		}
		got := map[uint64][]int{}
		over := map[uint64]uint64{}
		for at, steps := 0, 0; at < len(starts) || r.Load() > 0; steps++ {
			if steps > 1000 {
				t.Fatalf("it does not end: %d of %d came", at, len(starts))
			}
			for ; at < len(starts) && len(r.Arrive(starts[at])) == 0; at++ {
			}
			for _, m := range r.Step() {
				got[m.Attempt] = append(got[m.Attempt], m.List...)
				if m.Kind == msg.Over {
					over[m.Attempt] = m.N
				}
			}
		}
		for _, m := range starts {
			all := k.of(t, m.Job)
			want := all[min(int(m.N), len(all)):]
			if n, ok := over[m.Attempt]; !slices.Equal(got[m.Attempt], want) || !ok || n != max(m.N, uint64(len(all))) {
				t.Fatalf("round %d: %+v: %v, %d, want %v", round, m, got[m.Attempt], n, want)
			}
		}
	}
}
