package admit

import (
	"math"
	"slices"
	"testing"

	"garboard/api"
	"garboard/rand"
)

// TestExample: the chapter's example.
func TestExample(t *testing.T) {
	z := newTable(t, of(1, 1))
	for _, step := range []struct {
		stream uint64
		want   int
	}{{1, Taken}, {2, Full}, {1, Again}} {
		if got := z.Take(step.stream, 1, api.Job{}); got != step.want {
			t.Fatalf("Take(%d) is %d, want %d", step.stream, got, step.want)
		}
	}
	if err := z.Over(1); err != api.OK {
		t.Fatal(err)
	}
	if got := z.Take(1, 1, api.Job{}); got != Again {
		t.Fatalf("behind Over Take is %d", got)
	}
	if got := z.Take(2, 1, api.Job{}); got != Taken {
		t.Fatalf("behind Over Take of the second one is %d", got)
	}
}

// TestNumbersOfReasons: the reasons have the chapter's numbers.
func TestNumbersOfReasons(t *testing.T) {
	if Taken != 0 || Bad != 1 || Long != 2 || Again != 3 || Full != 4 || Many != 5 {
		t.Error(Taken, Bad, Long, Again, Full, Many)
	}
}

// wantNew tells where a setting is one, or none, otherwise than wanted.
func wantNew(t *testing.T, s Setting, may bool) {
	t.Helper()
	z, err := New(s)
	if may != (err == api.OK) || may != (z != nil) || !may && err != api.ErrArg {
		t.Fatalf("New(%+v) is %v, %v", s, z, err)
	}
	if may {
		newPair(t, s)
	}
}

// TestNew (P26.1): New's is empty, of each setting that may be.
func TestNew(t *testing.T) {
	for _, s := range []Setting{of(1, 1), of(64, 1), of(64, 64), of(5, 3), {Config: someConfig(), Streams: 1, Each: 1}} {
		p := newPair(t, s)
		wantStreams(t, p.table)
		for _, number := range someNumbers() {
			wantOf(t, p.table, number, 0)
			wantKnows(t, p.table, number, false)
			wantWhy(t, p.table, request{stream: number, session: number}, Taken)
			p.mustNotEnd(t, number)
		}
	}
}

// TestStreamsAndEach (P26.1): a setting has 1 to 64 Streams, and an Each of 1 to Streams.
func TestStreamsAndEach(t *testing.T) {
	numbers := []int{math.MinInt, math.MinInt32, -64, -2, -1, 0, 1, 2, 3, 31, 32, 62, 63, 64, 65, 66, 127, 128, 256, 1 << 32, 1<<32 + 1, math.MaxInt - 1, math.MaxInt}
	many := 0
	for _, streams := range numbers {
		for _, each := range append([]int{streams - 1, streams, streams + 1}, numbers...) {
			may := streams >= 1 && streams <= room && each >= 1 && each <= streams
			wantNew(t, of(streams, each), may)
			if may {
				many++
			}
		}
	}
	if many < 40 {
		t.Errorf("only %d were settings", many)
	}
}

// TestPromptAndMost (P26.1): a setting has a Prompt of 0 to 255, and a Most of 0 to 256.
func TestPromptAndMost(t *testing.T) {
	numbers := []int{math.MinInt, math.MinInt32, -2, -1, 0, 1, 2, 64, 128, 254, 255, 256, 257, 258, 512, 1 << 32, math.MaxInt - 1, math.MaxInt}
	for _, prompt := range numbers {
		for _, most := range numbers {
			s := of(2, 1)
			s.Prompt, s.Most = prompt, most
			wantNew(t, s, prompt >= 0 && prompt <= textTokens-1 && most >= 0 && most <= textTokens)
		}
	}
}

// configured is a configuration with one number of it set.
type configured struct {
	config api.Config
	may    bool
}

// configs are configurations with each number at its bounds, beside them, and far from them.
func configs() []configured {
	far := []int{math.MinInt, -1000, 1000, math.MaxInt}
	var all []configured
	add := func(set func(c *api.Config, to int), least, most int) {
		for _, to := range append([]int{least - 1, least, least + 1, most - 1, most, most + 1}, far...) {
			c := someConfig()
			set(&c, to)
			all = append(all, configured{c, least <= to && to <= most})
		}
	}
	add(func(c *api.Config, to int) { c.Vocab, c.Top = to, 1 }, 2, 64)
	add(func(c *api.Config, to int) { c.Dim = to }, 1, 16)
	add(func(c *api.Config, to int) { c.Layers = to }, 1, 4)
	add(func(c *api.Config, to int) { c.Top = to }, 1, 5)
	add(func(c *api.Config, to int) { c.Vocab, c.Top = 64, to }, 1, 64)
	add(func(c *api.Config, to int) { c.Vocab, c.Top = 2, to }, 1, 2)
	add(func(c *api.Config, to int) { c.Heat = to }, 0, 8)
	for _, seed := range []uint64{0, 1, 1 << 63, greatest} {
		c := someConfig()
		c.Seed = seed
		all = append(all, configured{c, true})
	}
	return append(all, configured{})
}

// TestConfig (P26.1): a setting has a configuration that may be.
func TestConfig(t *testing.T) {
	for _, c := range configs() {
		s := of(3, 2)
		s.Config = c.config
		wantNew(t, s, c.may)
	}
}

// TestNoSetting (P26.1): a setting in which all is wrong is none, and so is the zero one.
func TestNoSetting(t *testing.T) {
	wantNew(t, Setting{}, false)
	wantNew(t, Setting{Streams: -1, Each: 70, Prompt: 256, Most: -1}, false)
}

// someNumbers are numbers of streams and of sessions: the least, the greatest, and some between.
func someNumbers() []uint64 {
	return []uint64{0, 1, 2, 255, 1 << 32, 1<<63 - 1, 1 << 63, 1<<63 + 1, greatest - 1, greatest}
}

// wantJob tells where an empty table takes a job, or refuses it, for another reason than is wanted.
func wantJob(t *testing.T, s Setting, j api.Job, want int) {
	t.Helper()
	newPair(t, s).must(t, request{stream: 7, session: 8, job: j}, want)
}

// TestPrompts (P26.1): prompts of each length, with each setting's Prompt: as long as that, they are taken; longer, they are Long; with more than 255 tokens they are Bad.
func TestPrompts(t *testing.T) {
	for _, prompts := range []int{0, 1, 2, 9, 100, 254, 255} {
		s := of(2, 1)
		s.Prompt = prompts
		for _, many := range []int{0, 1, 2, prompts - 1, prompts, prompts + 1, prompts + 2, 254, 255, 256, 257, 1000, 1 << 17} {
			want := Taken
			if many > textTokens-1 {
				want = Bad
			} else if many > prompts {
				want = Long
			}
			wantJob(t, s, api.Job{Prompt: prompt(max(many, 0), 4)}, want)
		}
	}
}

// TestNoPrompt (P26.1): a prompt that is nil is one of no token.
func TestNoPrompt(t *testing.T) {
	s := of(2, 1)
	s.Prompt = 0
	wantJob(t, s, api.Job{Prompt: nil}, Taken)
	wantJob(t, s, api.Job{Prompt: []int{}}, Taken)
}

// someTokens are numbers for tokens: the least and the greatest ones, those beside them, and those far from them.
func someTokens(vocab int) []int {
	return []int{math.MinInt, -1 << 32, -2, -1, 0, 1, vocab - 2, vocab - 1, vocab, vocab + 1, 63, 64, 1 << 32, math.MaxInt}
}

// TestTokens (P26.1): a token that is none, wherever it stands in a prompt, has the job be Bad; each that is one has it be taken.
func TestTokens(t *testing.T) {
	for _, vocab := range []int{2, 3, 5, 63, 64} {
		s := of(2, 1)
		s.Config.Vocab, s.Config.Top, s.Prompt = vocab, 1, textTokens-1
		for _, token := range someTokens(vocab) {
			want := Bad
			if 0 <= token && token < vocab {
				want = Taken
			}
			for _, many := range []int{1, 2, 3, 6, 255} {
				for _, at := range []int{0, many / 2, many - 1} {
					tokens := prompt(many, 1)
					tokens[at] = token
					wantJob(t, s, api.Job{Prompt: tokens}, want)
				}
			}
		}
	}
}

// TestMost (P26.1): a Most of up to the setting's is taken; greater ones are Long; above 256, and below 0, they are Bad.
func TestMost(t *testing.T) {
	for _, most := range []int{0, 1, 9, 128, 255, 256} {
		s := of(2, 1)
		s.Most = most
		for _, asked := range []int{math.MinInt, -1 << 32, -2, -1, 0, 1, most - 1, most, most + 1, most + 2, 255, 256, 257, 1 << 32, math.MaxInt - 1, math.MaxInt} {
			want := Taken
			if asked < 0 || asked > textTokens {
				want = Bad
			} else if asked > most {
				want = Long
			}
			wantJob(t, s, api.Job{Most: asked, Prompt: prompt(3, 1)}, want)
		}
	}
}

// TestSeeds (P26.1): a job's seed plays no part.
func TestSeeds(t *testing.T) {
	for _, seed := range someNumbers() {
		wantJob(t, of(2, 1), api.Job{Seed: seed, Prompt: []int{1}, Most: 3}, Taken)
		wantJob(t, of(2, 1), api.Job{Seed: seed, Prompt: []int{5}, Most: 3}, Bad)
	}
}

// TestPromptAndMostTogether (P26.1): a text of more than 256 tokens may be asked for, as it ends at its end.
func TestPromptAndMostTogether(t *testing.T) {
	s := of(2, 1)
	s.Prompt, s.Most = 255, 256
	wantJob(t, s, api.Job{Prompt: prompt(255, 4), Most: 256}, Taken)
	s.Prompt = 254
	wantJob(t, s, api.Job{Prompt: prompt(255, 4), Most: 256}, Long)
	s.Prompt, s.Most = 255, 255
	wantJob(t, s, api.Job{Prompt: prompt(255, 4), Most: 256}, Long)
}

// TestAgain (P26.1): one of a stream that is taken, or remembered, of the same session and of another, is refused; one of another stream is not.
func TestAgain(t *testing.T) {
	for _, stream := range someNumbers() {
		for _, session := range someNumbers() {
			p := newPair(t, of(4, 4))
			p.takes(t, stream, session)
			wantKnows(t, p.table, stream, true)
			for range 2 {
				p.must(t, request{stream: stream, session: session}, Again)
				p.must(t, request{stream: stream, session: session + 1}, Again)
				p.must(t, request{stream: stream, session: session, job: api.Job{Seed: 9, Prompt: []int{1, 2}, Most: 3}}, Again)
				wantOf(t, p.table, session, 1)
				wantOf(t, p.table, session+1, 0)
				wantStreams(t, p.table, stream)
			}
			p.mustEnd(t, stream)
			wantKnows(t, p.table, stream, true)
			for range 2 {
				p.must(t, request{stream: stream, session: session}, Again)
				p.must(t, request{stream: stream, session: session + 1}, Again)
				wantOf(t, p.table, session, 0)
				wantStreams(t, p.table)
			}
			p.takes(t, stream+1, session)
			p.takes(t, stream-1, session)
			wantKnows(t, p.table, stream+2, false)
		}
	}
}

// fill has a table take streams, from a number on, of sessions of their own, until so many are taken.
func (p pair) fill(t *testing.T, first uint64, streams int) {
	t.Helper()
	for n := first; len(p.book.taken) < streams; n++ {
		p.takes(t, n, 1000+n)
	}
}

// TestFull (P26.1): with one fewer than Streams there is room, with as many there is none, for whatever stream and session, until one is over.
func TestFull(t *testing.T) {
	for _, streams := range []int{1, 2, 3, 7, 32, 63, 64} {
		p := newPair(t, of(streams, 1))
		p.fill(t, 10, streams-1)
		for _, number := range someNumbers() {
			wantWhy(t, p.table, request{stream: number, session: number}, Taken)
		}
		p.takes(t, 5, 6)
		for _, number := range someNumbers() {
			p.must(t, request{stream: number, session: number}, Full)
			wantKnows(t, p.table, number, false)
			wantOf(t, p.table, number, 0)
		}
		p.mustEnd(t, p.book.taken[len(p.book.taken)/2].stream)
		p.takes(t, 0, 0)
		p.must(t, request{stream: 1, session: 1}, Full)
	}
}

// TestMany (P26.1): with one fewer of a session than Each there is room for one of it, with as many there is none, until one of that session is over; others play no part.
func TestMany(t *testing.T) {
	for _, bounds := range [][2]int{{1, 1}, {2, 1}, {2, 2}, {3, 2}, {8, 1}, {8, 3}, {8, 7}, {8, 8}, {64, 1}, {64, 30}, {64, 63}, {64, 64}} {
		for _, session := range []uint64{0, 1, 77, 1 << 63, greatest} {
			p := newPair(t, of(bounds[0], bounds[1]))
			p.manyOf(t, session)
		}
	}
}

// manyOf takes as many of a session as Each, and then some more.
func (p pair) manyOf(t *testing.T, session uint64) {
	t.Helper()
	refused := Many
	if p.book.Streams == p.book.Each {
		refused = Full
	}
	for n := range p.book.Each {
		wantOf(t, p.table, session, n)
		p.takes(t, uint64(n), session)
	}
	wantOf(t, p.table, session, p.book.Each)
	for _, stream := range []uint64{100, session, greatest} {
		if !p.book.knows(stream) {
			p.must(t, request{stream: stream, session: session}, refused)
		}
	}
	if refused == Many {
		p.takes(t, 200, session+1)
		p.mustEnd(t, 200)
		p.must(t, request{stream: 100, session: session}, Many)
	}
	p.mustEnd(t, uint64(p.book.Each-1))
	wantOf(t, p.table, session, p.book.Each-1)
	p.takes(t, 100, session)
	p.must(t, request{stream: 101, session: session}, refused)
	wantOf(t, p.table, session, p.book.Each)
}

// TestOtherSessions (P26.1): with an Each of 2, sessions fill up each by itself, until all is full.
func TestOtherSessions(t *testing.T) {
	p := newPair(t, of(6, 2))
	for n, step := range []struct {
		session uint64
		want    int
	}{{1, Taken}, {2, Taken}, {1, Taken}, {1, Many}, {3, Taken}, {2, Taken}, {2, Many}, {1, Many}, {3, Taken}, {3, Full}, {1, Full}, {4, Full}} {
		p.must(t, request{stream: uint64(n), session: step.session}, step.want)
	}
	wantStreams(t, p.table, 0, 1, 2, 4, 5, 8)
	for session, want := range []int{0, 2, 2, 2, 0} {
		wantOf(t, p.table, uint64(session), want)
	}
}

// reasons tell which of the reasons there are to hold, by their numbers; that of the number 0 is not asked.
type reasons [6]bool

// first is the first of them.
func (w reasons) first() int {
	for why, holds := range w {
		if holds {
			return why
		}
	}
	return Taken
}

// someReasons are all sets of reasons.
func someReasons() []reasons {
	var all []reasons
	for bits := range 32 {
		var w reasons
		for why := 1; why <= 5; why++ {
			w[why] = bits>>(why-1)&1 == 1
		}
		all = append(all, w)
	}
	return all
}

// jobs are jobs that are just so, each in another way: Bad or not, Long or not.
func (w reasons) jobs() []api.Job {
	switch {
	case w[Bad] && w[Long]:
		return []api.Job{{Prompt: prompt(256, 1)}, {Prompt: prompt(7, 5)}, {Prompt: []int{-1}, Most: 10}, {Most: 257}, {Most: math.MaxInt}, {Prompt: prompt(7, 1), Most: -1}}
	case w[Bad]:
		return []api.Job{{Prompt: []int{5}}, {Prompt: []int{0, -1}, Most: 9}, {Most: -1}, {Most: math.MinInt, Prompt: prompt(6, 4)}}
	case w[Long]:
		return []api.Job{{Prompt: prompt(7, 1)}, {Prompt: prompt(255, 4)}, {Most: 10}, {Most: 256}, {Prompt: prompt(7, 0), Most: 10}}
	}
	return []api.Job{{}, {Prompt: prompt(6, 4), Most: 9, Seed: 5}}
}

// table is one, with 4 Streams and an Each of 2, and requests for it, for which just these reasons hold.
func (w reasons) table(t *testing.T) (pair, []request) {
	t.Helper()
	p := newPair(t, of(4, 2))
	p.takes(t, 50, 9)
	p.takes(t, 40, 9)
	p.mustEnd(t, 40)
	p.takes(t, 60, 8)
	if w[Full] {
		p.takes(t, 70, 8)
		p.takes(t, 30, 9)
	} else if w[Many] {
		p.takes(t, 30, 9)
	}
	session := uint64(7)
	if w[Many] {
		session = 9
	}
	streams := []uint64{55, 0, greatest}
	if w[Again] {
		streams = []uint64{50, 40, 60}
	}
	var all []request
	for _, stream := range streams {
		for _, job := range w.jobs() {
			all = append(all, request{stream, session, job})
		}
	}
	return p, all
}

// TestFirstReason (P26.1): of whatever reasons hold, the first one counts; what is refused leaves all as it was, so that the next one is refused likewise.
func TestFirstReason(t *testing.T) {
	for _, w := range someReasons() {
		p, all := w.table(t)
		for _, r := range all {
			for why := 1; why <= 5; why++ {
				if p.book.holds(why, r) != w[why] {
					t.Fatalf("%+v: of the reason %d it is %v", r, why, !w[why])
				}
			}
			if w.first() != Taken {
				p.must(t, r, w.first())
				continue
			}
			p.must(t, r, Taken)
			p.mustEnd(t, r.stream)
			p.copied().check(t)
			p, _ = w.table(t)
		}
	}
}

// TestAskTurnsNothing (P26.1): Ask, whatever it answers, and a Take that is refused leave all as it was.
func TestAskTurnsNothing(t *testing.T) {
	for _, w := range someReasons() {
		p, all := w.table(t)
		streams := p.table.Streams()
		for range 3 {
			for _, r := range all {
				p.asks(t, r)
				if w.first() != Taken {
					p.offers(t, r)
				}
			}
		}
		wantStreams(t, p.table, streams...)
		for _, number := range []uint64{50, 40, 60} {
			wantKnows(t, p.table, number, true)
		}
		for _, number := range []uint64{55, 0, greatest} {
			wantKnows(t, p.table, number, false)
		}
		wantOf(t, p.table, 7, 0)
		p.checkAll(t)
		p.checkOrder(t)
	}
}

// TestOver (P26.1): one that is taken is over, once; behind it there is room for another one, and for one of its session, but not for it.
func TestOver(t *testing.T) {
	for goes := range 4 {
		p := newPair(t, of(4, 2))
		lines := []line{{20, 1}, {0, 1}, {greatest, 2}, {10, greatest}}
		for _, l := range lines {
			p.takes(t, l.stream, l.session)
		}
		l := lines[goes]
		ahead := p.table.Of(l.session)
		p.mustEnd(t, l.stream)
		wantOf(t, p.table, l.session, ahead-1)
		wantKnows(t, p.table, l.stream, true)
		if slices.Contains(p.table.Streams(), l.stream) || len(p.table.Streams()) != 3 {
			t.Fatalf("behind Over(%d) Streams are %v", l.stream, p.table.Streams())
		}
		for range 3 {
			p.mustNotEnd(t, l.stream)
			p.must(t, request{stream: l.stream, session: l.session}, Again)
			p.must(t, request{stream: l.stream, session: 99}, Again)
		}
		p.takes(t, 30, l.session)
		wantOf(t, p.table, l.session, ahead)
		p.mustNotEnd(t, l.stream)
		p.must(t, request{stream: 31, session: l.session}, Full)
		p.mustEnd(t, 30)
		wantOf(t, p.table, l.session, ahead-1)
	}
}

// TestOverOfNone (P26.1): one that was never taken, or was refused, is not over, and is not remembered.
func TestOverOfNone(t *testing.T) {
	p := newPair(t, of(2, 1))
	p.takes(t, 5, 6)
	p.must(t, request{stream: 9, session: 6}, Many)
	p.must(t, request{stream: 8, session: 1, job: api.Job{Most: -1}}, Bad)
	for _, number := range append(someNumbers(), 4, 6, 8, 9) {
		p.mustNotEnd(t, number)
		wantKnows(t, p.table, number, false)
		wantWhy(t, p.table, request{stream: number, session: 1}, Taken)
	}
	wantStreams(t, p.table, 5)
	p.takes(t, 9, 7)
	p.mustEnd(t, 9)
	p.mustEnd(t, 5)
	wantStreams(t, p.table)
}

// numbers are so many numbers that neither rise nor fall, none of them twice.
func numbers(many int) []uint64 {
	all, next := []uint64{0, greatest, 1, greatest - 1}, rand.New(5)
	for len(all) < many {
		all = append(all, next.Next())
	}
	return all[:many]
}

// remembering is a pair to which so many were over, in another order than they were taken in: these, as they were over.
func remembering(t *testing.T, many int) (pair, []uint64) {
	t.Helper()
	p := newPair(t, of(8, 8))
	all := numbers(many)
	var overs []uint64
	for _, stream := range all {
		if len(p.book.taken) == 8 {
			// In turns the newest one, the oldest one and one between.
			goes := p.book.taken[[]int{7, 0, 4}[len(overs)%3]].stream
			p.ends(t, goes)
			overs = append(overs, goes)
		}
		p.offers(t, request{stream: stream, session: stream})
	}
	for len(p.book.taken) > 0 {
		goes := p.book.taken[len(p.book.taken)-1].stream
		p.ends(t, goes)
		overs = append(overs, goes)
	}
	if len(overs) != many || many > 1 && slices.Equal(overs, all) {
		t.Fatalf("%d were over", len(overs))
	}
	p.checkAll(t)
	return p, overs
}

// TestRemembered (P26.1, P26.2): 4096 that are over are remembered, and with one more the one goes that was over first.
func TestRemembered(t *testing.T) {
	for _, many := range []int{1, 2, 9, kept - 1, kept, kept + 1, kept + 2, kept + 1000} {
		p, overs := remembering(t, many)
		for turn, stream := range overs {
			known := turn >= many-kept
			wantKnows(t, p.table, stream, known)
			want := Taken
			if known {
				want = Again
			}
			wantWhy(t, p.table, request{stream: stream, session: 3}, want)
		}
		p.checkOrder(t)
	}
}

// TestGone (P26.1, P26.2): one that went is as one that never was: it is not over, and may be taken again, and then it is remembered from its second end on.
func TestGone(t *testing.T) {
	p, overs := remembering(t, kept+3)
	for _, gone := range overs[:3] {
		p.mustNotEnd(t, gone)
		wantKnows(t, p.table, gone, false)
	}
	gone, oldest := overs[2], overs[3]
	p.must(t, request{stream: oldest, session: 1}, Again)
	p.takes(t, gone, 1)
	p.must(t, request{stream: gone, session: 1}, Again)
	wantKnows(t, p.table, gone, true)
	wantKnows(t, p.table, oldest, true)
	wantStreams(t, p.table, gone)
	p.mustEnd(t, gone)
	wantKnows(t, p.table, gone, true)
	wantKnows(t, p.table, oldest, false)
	p.must(t, request{stream: gone, session: 2}, Again)
	for turn := 4; turn < len(overs); turn++ {
		wantKnows(t, p.table, overs[turn], true)
		p.offers(t, request{stream: overs[turn-1], session: 2})
		p.ends(t, overs[turn-1])
		wantKnows(t, p.table, overs[turn], false)
		wantKnows(t, p.table, gone, true)
	}
	p.takes(t, 1<<40, 2)
	p.mustEnd(t, 1<<40)
	wantKnows(t, p.table, gone, false)
	p.checkAll(t)
	p.checkOrder(t)
}

// TestOldestGoesByOver (P26.2): neither what Take answers, nor Ask, nor an Over that is refused, lets the oldest one go, or has it be newer.
func TestOldestGoesByOver(t *testing.T) {
	p, overs := remembering(t, kept)
	oldest := overs[0]
	for n := range uint64(8) {
		p.takes(t, 100+n, n)
		p.must(t, request{stream: oldest, session: n}, Again)
		p.mustNotEnd(t, oldest)
		p.mustNotEnd(t, overs[9])
	}
	p.must(t, request{stream: 200}, Full)
	wantKnows(t, p.table, oldest, true)
	p.mustEnd(t, 103)
	wantKnows(t, p.table, oldest, false)
	wantKnows(t, p.table, overs[1], true)
	wantKnows(t, p.table, 103, true)
	p.checkAll(t)
	p.checkOrder(t)
}

// TestTakenIsNotForgotten (P26.2): one that is taken is known as long as it is, whatever is over meanwhile, and 4096 ends behind its own.
func TestTakenIsNotForgotten(t *testing.T) {
	p := newPair(t, of(2, 2))
	p.takes(t, 7, 1)
	turn := func(n uint64) {
		p.offers(t, request{stream: n, session: 1})
		p.ends(t, n)
	}
	for n := range uint64(2 * kept) {
		turn(1000 + n)
		wantKnows(t, p.table, 7, true)
	}
	wantStreams(t, p.table, 7)
	p.mustEnd(t, 7)
	for n := range uint64(kept) {
		wantKnows(t, p.table, 7, true)
		turn(100000 + n)
	}
	wantKnows(t, p.table, 7, false)
	wantKnows(t, p.table, 100000, true)
	p.checkAll(t)
}

// TestStreams (P26.2): Streams rise, of none, of one, of 64, and of numbers that are far apart, in whatever order they were taken.
func TestStreams(t *testing.T) {
	for _, many := range []int{0, 1, 2, 3, 20, 63, 64} {
		p := newPair(t, of(64, 64))
		all := numbers(many)
		for n, stream := range all {
			p.takes(t, stream, uint64(n%3))
		}
		rising := slices.Clone(all)
		slices.Sort(rising)
		wantStreams(t, p.table, rising...)
		for n, stream := range all {
			p.mustEnd(t, stream)
			left := slices.Clone(all[n+1:])
			slices.Sort(left)
			wantStreams(t, p.table, left...)
		}
	}
}

// TestStreamsWrittenOver (P26.2): what Streams hands back may be written over.
func TestStreamsWrittenOver(t *testing.T) {
	p := newPair(t, of(64, 64))
	for n, stream := range numbers(40) {
		p.takes(t, stream, uint64(n%3))
		one := p.table.Streams()
		other := p.table.Streams()
		for at := range one {
			one[at] = 3
		}
		one = append(one[:0], 4, 5, 6)
		if !slices.Equal(other, p.book.streams()) {
			t.Fatalf("Streams are %v, want %v", other, p.book.streams())
		}
		p.check(t)
	}
}

// TestJobWrittenOver (P26.1): a prompt may be written over behind a Take and an Ask, which did not write into it.
func TestJobWrittenOver(t *testing.T) {
	p := newPair(t, of(3, 3))
	tokens := append(make([]int, 0, 20), 1, 2, 3, 4)
	behind := tokens[:20]
	r := request{stream: 1, session: 1, job: api.Job{Prompt: tokens, Most: 3}}
	p.must(t, r, Taken)
	if !slices.Equal(behind[:5], []int{1, 2, 3, 4, 0}) || slices.Max(behind) != 4 {
		t.Fatalf("the prompt is %v", behind)
	}
	for at := range behind {
		behind[at] = -7
	}
	p.checkAll(t)
	wantWhy(t, p.table, request{stream: 2, session: 1, job: r.job}, Bad)
	p.must(t, request{stream: 1, session: 1}, Again)
	p.mustEnd(t, 1)
	p.checkAll(t)
}

// TestSettingIsCopied (R4): what is done to a setting behind New plays no part.
func TestSettingIsCopied(t *testing.T) {
	s := of(2, 1)
	p := newPair(t, s)
	s.Streams, s.Each, s.Prompt, s.Most, s.Config.Vocab = 1, 1, 0, 0, 2
	p.must(t, request{stream: 1, session: 1, job: api.Job{Prompt: prompt(6, 4), Most: 9}}, Taken)
	p.takes(t, 2, 2)
}

// TestTwoTables (R3): tables of one setting have nothing in common.
func TestTwoTables(t *testing.T) {
	one, other := newPair(t, of(2, 1)), newPair(t, of(2, 1))
	one.takes(t, 1, 1)
	other.takes(t, 1, 1)
	one.mustEnd(t, 1)
	other.check(t)
	wantStreams(t, other.table, 1)
	one.takes(t, 2, 1)
	other.must(t, request{stream: 2, session: 1}, Many)
	one.checkOrder(t)
	other.checkOrder(t)
}

// TestNobodyMadeIt (P26.2): a nil table, and one that New did not give, answer so with each call, whatever was called ahead.
func TestNobodyMadeIt(t *testing.T) {
	for name, z := range map[string]*Table{"nil": nil, "zero": {}, "of new": new(Table)} {
		for range 2 {
			for _, number := range someNumbers() {
				for _, job := range []api.Job{{}, {Prompt: []int{1}, Most: 2}, {Prompt: []int{-1}}, {Prompt: prompt(300, 1)}, {Most: 300}} {
					wantWhy(t, z, request{number, number, job}, Bad)
					if got := z.Take(number, number, job); got != Bad {
						t.Fatalf("%s: Take is %d", name, got)
					}
				}
				if err := z.Over(number); err != api.ErrNone {
					t.Fatalf("%s: Over is %v", name, err)
				}
				wantOf(t, z, number, 0)
				wantKnows(t, z, number, false)
				if got := z.Streams(); len(got) != 0 {
					t.Fatalf("%s: Streams are %v", name, got)
				}
			}
		}
	}
}
