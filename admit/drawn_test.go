package admit

import (
	"fmt"
	"maps"
	"math"
	"slices"
	"testing"

	"garboard/api"
	"garboard/rand"
)

// setting is what a table is set to, of how many sessions there are requests, of which calls a test draws more, how many were over ahead of them, from how many numbers those of new streams are drawn (0: from all that there are), and how many calls there are.
type setting struct {
	Setting
	sessions           int
	asks, takes, overs int
	ahead              int
	numbers            uint64
	calls              int
}

// bounds is a setting.
func bounds(streams, each, prompt, most, vocab int) Setting {
	s := Setting{Config: someConfig(), Streams: streams, Each: each, Prompt: prompt, Most: most}
	s.Config.Vocab, s.Config.Top = vocab, 1
	return s
}

// someSettings are tables of few streams and of many, that are empty, full and between, with sessions that have as many as they may or not, and with short and long jobs.
func someSettings() []setting {
	return []setting{
		{bounds(1, 1, 0, 0, 2), 1, 1, 3, 3, 0, 0, 400}, {bounds(1, 1, 5, 5, 5), 3, 1, 5, 2, kept - 50, 0, 400}, {bounds(2, 1, 255, 256, 64), 2, 1, 5, 3, kept - 9, 6000, 400}, {bounds(2, 2, 3, 256, 9), 3, 1, 4, 4, kept, 5000, 400},
		{bounds(3, 1, 254, 255, 63), 2, 2, 6, 3, kept + 1, 0, 400}, {bounds(3, 2, 1, 1, 2), 2, 1, 7, 4, kept + 900, 9000, 400}, {bounds(4, 4, 100, 0, 30), 5, 1, 4, 2, 20, 100, 400}, {bounds(5, 2, 0, 9, 5), 3, 1, 6, 3, 0, 40, 400},
		{bounds(8, 1, 6, 9, 5), 9, 1, 6, 3, 4000, 4500, 400}, {bounds(8, 3, 6, 9, 5), 4, 2, 6, 4, kept - 30, 0, 400}, {bounds(8, 8, 6, 9, 64), 2, 1, 8, 7, kept, 8000, 400}, {bounds(16, 4, 20, 20, 20), 5, 1, 7, 4, 3 * kept, 0, 400},
		{bounds(16, 15, 9, 3, 3), 2, 1, 8, 4, 100, 0, 400}, {bounds(32, 5, 40, 64, 12), 9, 1, 7, 3, kept - 1, 5000, 400}, {bounds(63, 63, 8, 8, 8), 3, 1, 9, 3, 0, 0, 500}, {bounds(64, 1, 6, 9, 5), 80, 1, 9, 3, kept - 5, 0, 500},
		{bounds(64, 64, 6, 9, 5), 1, 1, 9, 3, kept - 5, 5000, 500}, {bounds(64, 20, 6, 9, 5), 4, 1, 9, 4, kept + 7, 7000, 500}, {bounds(64, 30, 255, 256, 64), 2, 2, 8, 3, 50, 300, 500}, {bounds(10, 9, 2, 2, 2), 1, 1, 5, 5, kept / 2, 0, 400},
	}
}

// draws are what a test's calls are made of; they keep which streams were taken, as they were.
type draws struct {
	*rand.Source
	setting
	past []uint64
}

// newDraws are draws that hang on a label and a setting's number.
func newDraws(label, n int, s setting) *draws {
	return &draws{Source: rand.New(rand.Derive(26, uint64(label), uint64(n))), setting: s}
}

// below is a number below another one.
func (d *draws) below(n int) int { return int(d.Next() % uint64(n)) }

// fresh is a number of a stream that may be a new one.
func (d *draws) fresh() uint64 {
	if d.numbers == 0 {
		return d.Next()
	}
	return d.Next() % d.numbers
}

// old is a stream out of the last ones that were taken, so many of them, if there are any.
func (d *draws) old(last int) uint64 {
	if len(d.past) == 0 {
		return d.fresh()
	}
	return d.past[len(d.past)-1-d.below(min(last, len(d.past)))]
}

// atEnd is a stream that is one of the oldest ones that are remembered, or one of those that went last, if there are any; or one that was taken ahead.
func (d *draws) atEnd() uint64 {
	at := len(d.past) - kept - 3 + d.below(8)
	if at < 0 || at >= len(d.past) {
		return d.old(9)
	}
	return d.past[at]
}

// stream is one for a request: mostly a new one.
func (d *draws) stream(z *Table) uint64 {
	switch d.below(16) {
	case 0:
		return d.one(z)
	case 1:
		return d.old(9)
	case 2:
		return d.old(kept + 200)
	case 3, 4:
		return d.atEnd()
	case 5:
		return []uint64{0, 1, 1 << 63, greatest}[d.below(4)]
	}
	return d.fresh()
}

// one is a stream that is taken, if one is.
func (d *draws) one(z *Table) uint64 {
	all := z.Streams()
	if len(all) == 0 {
		return d.fresh()
	}
	return all[d.below(len(all))]
}

// ended is a stream for Over: mostly one that is taken.
func (d *draws) ended(z *Table) uint64 {
	switch d.below(12) {
	case 0, 1:
		return d.stream(z)
	case 2:
		return d.atEnd()
	}
	return d.one(z)
}

// session is one of those that there are, of which one is 0, and one is the greatest number.
func (d *draws) session() uint64 {
	if d.below(40) == 0 {
		return d.Next()
	}
	n := uint64(d.below(d.sessions))
	if n == 1 {
		return greatest
	}
	return n * n
}

// tokens are a prompt: mostly as short as it may be, and of tokens.
func (d *draws) tokens() []int {
	many := d.below(min(d.Prompt, 9) + 1)
	switch d.below(24) {
	case 0:
		many = d.Prompt + 1
	case 1:
		many = d.Prompt
	case 2:
		many = textTokens - 2 + d.below(4)
	}
	all := make([]int, many)
	for at := range all {
		all[at] = d.below(d.Config.Vocab)
	}
	if many > 0 && d.below(24) == 0 {
		at := []int{0, many - 1, d.below(many)}[d.below(3)]
		all[at] = []int{math.MinInt, -1, d.Config.Vocab, math.MaxInt}[d.below(4)]
	}
	return all
}

// most is a job's Most: mostly one that may be.
func (d *draws) most() int {
	switch d.below(24) {
	case 0:
		return []int{math.MinInt, -1, textTokens, textTokens + 1, math.MaxInt}[d.below(5)]
	case 1:
		return d.Most + 1
	case 2:
		return d.Most
	}
	return d.below(d.Most + 1)
}

// job is one for a request.
func (d *draws) job() api.Job {
	return api.Job{Seed: d.Next(), Prompt: d.tokens(), Most: d.most()}
}

// The names of the calls that turn a table, or tell why they would not.
const (
	ask  = "Ask"
	take = "Take"
	over = "Over"
)

// call is one of them.
type call struct {
	name string
	request
}

// call is a drawn one, for a table.
func (d *draws) call(z *Table) call {
	n := d.below(d.asks + d.takes + d.overs)
	switch {
	case n < d.overs:
		return call{over, request{stream: d.ended(z)}}
	case n < d.overs+d.takes:
		return call{take, request{d.stream(z), d.session(), d.job()}}
	}
	return call{ask, request{d.stream(z), d.session(), d.job()}}
}

// inTable does it: a reason, or an error's number.
func (c call) inTable(z *Table) int {
	switch c.name {
	case ask:
		return z.Ask(c.stream, c.session, c.job)
	case take:
		return z.Take(c.stream, c.session, c.job)
	}
	return int(z.Over(c.stream))
}

// inBook does it in a book.
func (c call) inBook(b *book) int {
	switch c.name {
	case ask:
		return b.ask(c.request)
	case take:
		return b.take(c.request)
	}
	return int(b.over(c.stream))
}

// does does a drawn call to a table: it, and what it answers. Nothing is written into its prompt, which is written over behind it.
func (d *draws) does(t *testing.T, z *Table) (call, int) {
	t.Helper()
	c := d.call(z)
	tokens := slices.Clone(c.job.Prompt)
	got := c.inTable(z)
	if !slices.Equal(c.job.Prompt, tokens) {
		t.Fatalf("the prompt %v is %v", tokens, c.job.Prompt)
	}
	for at := range c.job.Prompt {
		c.job.Prompt[at] = -9
	}
	c.job.Prompt = tokens
	if c.name == take && got == Taken {
		d.past = append(d.past, c.stream)
	}
	return c, got
}

// begins has as many streams be over as the setting tells.
func (d *draws) begins(t *testing.T, z *Table, taken func(line), ended func(uint64)) {
	t.Helper()
	for many := 0; many < d.ahead; {
		stream := d.fresh()
		if z.Take(stream, 5, api.Job{}) != Taken {
			continue
		}
		taken(line{stream, 5})
		if err := z.Over(stream); err != api.OK {
			t.Fatalf("Over(%d) is %v", stream, err)
		}
		ended(stream)
		d.past = append(d.past, stream)
		many++
	}
}

// began is a pair with as many streams over as the setting tells.
func (d *draws) began(t *testing.T) pair {
	t.Helper()
	p := newPair(t, d.Setting)
	d.begins(t, p.table, func(l line) { p.book.take(request{stream: l.stream, session: l.session}) }, func(stream uint64) { p.book.over(stream) })
	if len(p.book.overs) != d.ahead {
		t.Fatalf("%d are over, of %s", len(p.book.overs), p.book)
	}
	return p
}

// What calls meet beside their answers.
const (
	twice   = "Over of one that is over already, and remembered"
	gone    = "Over of one that went"
	letsGo  = "Over that lets the oldest one go"
	reTaken = "Take of one that went"
)

// beside is what a call meets beside its answer.
func (c call) beside(b *book) string {
	_, wasOver := b.turns[c.stream]
	switch {
	case c.name == over && b.has(c.stream) && len(b.overs) >= kept:
		return letsGo
	case c.name == over && b.remembers(c.stream):
		return twice
	case c.name == over && wasOver && !b.knows(c.stream):
		return gone
	case c.name == take && wasOver && b.ask(c.request) == Taken:
		return reTaken
	}
	return ""
}

// step does a drawn call to both, behind which nothing is asked, and counts what it met.
func (d *draws) step(t *testing.T, p pair, count map[string]int) {
	t.Helper()
	c, got := d.does(t, p.table)
	if beside := c.beside(p.book); beside != "" {
		count[beside]++
	}
	if want := c.inBook(p.book); got != want {
		t.Fatalf("%+v is %d, want %d, behind which there is %s", c, got, want, p.book)
	}
	count[fmt.Sprint(c.name, got)]++
}

// someMet are all that calls meet.
func someMet() []string {
	all := []string{twice, gone, letsGo, reTaken, fmt.Sprint(over, 0), fmt.Sprint(over, 6)}
	for why := range 6 {
		all = append(all, fmt.Sprint(ask, why), fmt.Sprint(take, why))
	}
	return all
}

// TestDrawnCalls (P26.1, P26.2): calls in drawn orders answer as the chapter's words say, and leave behind what they say.
func TestDrawnCalls(t *testing.T) {
	count := map[string]int{}
	for n, s := range someSettings() {
		for round := range 5 {
			d := newDraws(round, n, s)
			p := d.began(t)
			for range s.calls {
				d.step(t, p, count)
				p.check(t)
			}
			p.checkAll(t)
			p.checkOrder(t)
		}
	}
	for _, m := range someMet() {
		if count[m] < 100 {
			t.Errorf("%s: %d times", m, count[m])
		}
	}
	if len(count) != len(someMet()) {
		t.Errorf("met was %v", count)
	}
}

// TestDrawnCallsAlone (P26.1, P26.2): so they do where nothing is asked between them.
func TestDrawnCallsAlone(t *testing.T) {
	count := map[string]int{}
	for n, s := range someSettings() {
		for round := range 3 {
			d := newDraws(10+round, n, s)
			p := d.began(t)
			for range d.below(10 * s.calls) {
				d.step(t, p, count)
			}
			p.checkAll(t)
			p.checkOrder(t)
		}
	}
}

// TestDrawnSame (R3): the same calls do the same.
func TestDrawnSame(t *testing.T) {
	for n, s := range someSettings() {
		one, other := newTable(t, s.Setting), newTable(t, s.Setting)
		d, e := newDraws(20, n, s), newDraws(20, n, s)
		for range s.calls {
			c, got := d.does(t, one)
			if _, same := e.does(t, other); got != same || !slices.Equal(one.Streams(), other.Streams()) {
				t.Fatalf("%+v is %d and %d, behind it there are %v and %v", c, got, same, one.Streams(), other.Streams())
			}
		}
	}
}

// alone does drawn calls to tables, and has each one looked at ahead of it and behind it; no book plays a part.
func alone(t *testing.T, label int, begin func(s Setting) watcher) {
	t.Helper()
	for n, s := range someSettings() {
		for round := range 4 {
			z, d := newTable(t, s.Setting), newDraws(label+round, n, s)
			w := begin(s.Setting)
			d.begins(t, z, w.taken, w.ended)
			for range 2 * s.calls {
				c := d.call(z)
				look := w.ahead(z, c)
				got := c.inTable(z)
				if c.name == take && got == Taken {
					d.past = append(d.past, c.stream)
				}
				look(got)
			}
		}
	}
}

// watcher looks at calls: what was taken and over ahead of them, and each one ahead of it, which tells what looks at its answer.
type watcher struct {
	taken func(line)
	ended func(uint64)
	ahead func(z *Table, c call) func(got int)
}

// unseen is a watcher of nothing yet.
func unseen() watcher { return watcher{taken: func(line) {}, ended: func(uint64) {}} }

// why is the first reason that holds for a request, by its numbers, the setting's, and what a table answers of Streams, Of and Knows.
func (s Setting) why(z *Table, r request) int {
	isToken := func(token int) bool { return token >= 0 && token < s.Config.Vocab }
	for _, token := range r.job.Prompt {
		if !isToken(token) {
			return Bad
		}
	}
	many, most := len(r.job.Prompt), r.job.Most
	switch {
	case many >= textTokens || most < 0 || most > textTokens:
		return Bad
	case many > s.Prompt || most > s.Most:
		return Long
	case z.Knows(r.stream):
		return Again
	case len(z.Streams()) >= s.Streams:
		return Full
	case z.Of(r.session) >= s.Each:
		return Many
	}
	return Taken
}

// TestRefusedJustIf (P26.3): a request is refused just if one of the reasons holds, by the calls' answers alone; Take and Ask answer the same.
func TestRefusedJustIf(t *testing.T) {
	count := map[string]int{}
	alone(t, 100, func(s Setting) watcher {
		w := unseen()
		w.ahead = func(z *Table, c call) func(int) {
			if c.name == over {
				return func(int) {}
			}
			want := s.why(z, c.request)
			if asked := z.Ask(c.stream, c.session, c.job); asked != want {
				t.Fatalf("Ask(%+v) is %d, want %d", c.request, asked, want)
			}
			return func(got int) {
				count[fmt.Sprint(c.name, got)]++
				if got != want {
					t.Fatalf("%+v is %d, want %d", c, got, want)
				}
			}
		}
		return w
	})
	for why := range 6 {
		for _, name := range []string{ask, take} {
			if count[fmt.Sprint(name, why)] < 100 {
				t.Errorf("%s was %d %d times", name, why, count[fmt.Sprint(name, why)])
			}
		}
	}
}

// sight is what a table answers of itself.
type sight struct {
	streams []uint64
	of      map[uint64]int
	knows   map[uint64]bool
	asks    map[line]int
}

// see is what a table answers, of these streams and sessions.
func see(z *Table, streams, sessions []uint64) sight {
	s := sight{streams: z.Streams(), of: map[uint64]int{}, knows: map[uint64]bool{}, asks: map[line]int{}}
	for _, session := range sessions {
		s.of[session] = z.Of(session)
	}
	for at, stream := range streams {
		session := sessions[at%len(sessions)]
		s.knows[stream] = z.Knows(stream)
		s.asks[line{stream, session}] = z.Ask(stream, session, api.Job{})
	}
	return s
}

// same tells whether two sights are the same.
func (s sight) same(other sight) bool {
	return slices.Equal(s.streams, other.streams) && maps.Equal(s.of, other.of) && maps.Equal(s.knows, other.knows) && maps.Equal(s.asks, other.asks)
}

// TestRefusedTurnsNothing (P26.3): what is refused, an Over too, turns nothing, by the calls' answers alone; nor does what only asks.
func TestRefusedTurnsNothing(t *testing.T) {
	count := map[string]int{}
	alone(t, 200, func(s Setting) watcher {
		var past []uint64
		w := unseen()
		w.ended = func(stream uint64) { past = append(past, stream) }
		w.ahead = func(z *Table, c call) func(int) {
			streams := append([]uint64{c.stream, c.stream + 1, 0, greatest}, z.Streams()...)
			if n := len(past); n > 0 {
				streams = append(streams, past[n-1], past[max(0, n-kept)], past[max(0, n-kept-1)], past[n/2])
			}
			sessions := []uint64{c.session, 0, 1, 4, 5, greatest}
			ahead := see(z, streams, sessions)
			return func(got int) {
				turns := c.name != ask && got == 0
				if c.name == over && got == 0 {
					past = append(past, c.stream)
				}
				if behind := see(z, streams, sessions); ahead.same(behind) == turns {
					t.Fatalf("%+v is %d, ahead of it there is %+v, and behind it %+v", c, got, ahead, behind)
				}
				count[fmt.Sprint(c.name, got)]++
			}
		}
		return w
	})
	for name, many := range count {
		if many < 100 {
			t.Errorf("%s: %d times", name, many)
		}
	}
	if len(count) != 14 {
		t.Errorf("met was %v", count)
	}
}

// TestWithoutRefused (P26.3): two tables, to one of which what is refused was not done at all, answer the same to all that is done to them.
func TestWithoutRefused(t *testing.T) {
	refused := 0
	for n, s := range someSettings() {
		z, other, d := newTable(t, s.Setting), newTable(t, s.Setting), newDraws(300, n, s)
		d.begins(t, z, func(l line) { other.Take(l.stream, l.session, api.Job{}) }, func(stream uint64) { other.Over(stream) })
		for range 2 * s.calls {
			c, got := d.does(t, z)
			if c.name == ask || got != 0 {
				refused++
				continue
			}
			if same := c.inTable(other); same != got {
				t.Fatalf("%+v is %d and %d", c, got, same)
			}
			if !slices.Equal(z.Streams(), other.Streams()) {
				t.Fatalf("behind %+v there are %v and %v", c, z.Streams(), other.Streams())
			}
		}
		for _, stream := range d.past {
			if z.Knows(stream) != other.Knows(stream) {
				t.Fatalf("Knows(%d) is %v and %v", stream, z.Knows(stream), other.Knows(stream))
			}
		}
	}
	if refused < 5000 {
		t.Errorf("only %d were refused", refused)
	}
}

// TestNotTwice (P26.4): no stream is taken twice, as long as it is remembered: until 4096 others were over behind its end; then it may be, by the calls' answers alone.
func TestNotTwice(t *testing.T) {
	again, anew, latest := 0, 0, 0
	alone(t, 400, func(s Setting) watcher {
		isTaken, ends, overs := map[uint64]bool{}, map[uint64]int{}, 0
		takes := func(stream uint64) {
			if isTaken[stream] {
				t.Fatalf("%d is taken twice", stream)
			}
			isTaken[stream] = true
			end, wasOver := ends[stream]
			if wasOver && overs-end < kept {
				t.Fatalf("%d is taken again, behind %d others that were over", stream, overs-end)
			}
			if wasOver {
				anew++
			}
		}
		ended := func(stream uint64) {
			isTaken[stream] = false
			overs++
			ends[stream] = overs
		}
		refuses := func(stream uint64) {
			again++
			end, wasOver := ends[stream]
			if !isTaken[stream] && (!wasOver || overs-end >= kept) {
				t.Fatalf("%d is refused, behind %d others that were over", stream, overs-end)
			}
			if wasOver && overs-end > kept-9 {
				latest++
			}
		}
		w := watcher{taken: func(l line) { takes(l.stream) }, ended: ended}
		w.ahead = func(z *Table, c call) func(int) {
			return func(got int) {
				switch {
				case c.name == over && got == 0:
					ended(c.stream)
				case c.name == take && got == Taken:
					takes(c.stream)
				case c.name == take && got == Again:
					refuses(c.stream)
				}
			}
		}
		return w
	})
	if again < 5000 || anew < 500 || latest < 500 {
		t.Errorf("%d were refused, %d of them late, and %d were taken anew", again, latest, anew)
	}
}

// TestWithin (P26.5): there are never more than Streams, nor more than Each of a session, by the calls' answers alone: which were taken, and are not over; Streams and Of tell just these.
func TestWithin(t *testing.T) {
	full, many := 0, 0
	alone(t, 500, func(s Setting) watcher {
		sessions := map[uint64]uint64{}
		w := watcher{taken: func(l line) { sessions[l.stream] = l.session }, ended: func(stream uint64) { delete(sessions, stream) }}
		w.ahead = func(z *Table, c call) func(int) {
			return func(got int) {
				switch {
				case c.name == over && got == 0:
					delete(sessions, c.stream)
				case c.name == take && got == Taken:
					sessions[c.stream] = c.session
				}
				each := map[uint64]int{c.session: 0}
				for _, session := range sessions {
					each[session]++
				}
				for session, have := range each {
					if have > s.Each || z.Of(session) != have {
						t.Fatalf("%d of %d are taken, of at most %d, and Of is %d", have, session, s.Each, z.Of(session))
					}
				}
				if len(sessions) > s.Streams || !slices.Equal(z.Streams(), slices.Sorted(maps.Keys(sessions))) {
					t.Fatalf("%d are taken, of at most %d, and Streams are %v", len(sessions), s.Streams, z.Streams())
				}
				if len(sessions) == s.Streams {
					full++
				}
				if each[c.session] == s.Each {
					many++
				}
			}
		}
		return w
	})
	if full < 5000 || many < 5000 {
		t.Errorf("%d times there were as many as Streams, %d times as many as Each", full, many)
	}
}
