package admit

import (
	"fmt"
	"maps"
	"math"
	"slices"
	"testing"

	"garboard/api"
)

// What the chapters tell by numbers.
const (
	room       = 64
	textTokens = 256
	kept       = 4096
)

// greatest is the greatest number of a stream, and of a session.
const greatest = math.MaxUint64

// request is one of a stream.
type request struct {
	stream, session uint64
	job             api.Job
}

// line is a stream that is taken, and its session.
type line struct{ stream, session uint64 }

// book is what is known of a table, and does what the chapter's words say: of streams that are over it has each one's turn, and lets none go; one is remembered as long as its turn is one of the last 4096.
type book struct {
	Setting
	taken []line // as they were taken
	turns map[uint64]int
	overs []uint64 // by their turns
}

// newBook is an empty one.
func newBook(s Setting) *book { return &book{Setting: s, turns: map[uint64]int{}} }

// jobMay tells whether a job may be.
func (b *book) jobMay(j api.Job) bool {
	for _, token := range j.Prompt {
		if token < 0 || token > b.Config.Vocab-1 {
			return false
		}
	}
	return len(j.Prompt) <= textTokens-1 && j.Most >= 0 && j.Most <= textTokens
}

// has tells whether a stream is taken.
func (b *book) has(stream uint64) bool {
	return slices.ContainsFunc(b.taken, func(l line) bool { return l.stream == stream })
}

// remembers tells whether a stream that is over is remembered.
func (b *book) remembers(stream uint64) bool {
	turn, isOver := b.turns[stream]
	return isOver && turn >= len(b.overs)-kept
}

// knows is Knows.
func (b *book) knows(stream uint64) bool { return b.has(stream) || b.remembers(stream) }

// of is Of.
func (b *book) of(session uint64) int {
	many := 0
	for _, l := range b.taken {
		if l.session == session {
			many++
		}
	}
	return many
}

// streams is Streams.
func (b *book) streams() []uint64 {
	var all []uint64
	for _, l := range b.taken {
		all = append(all, l.stream)
	}
	slices.Sort(all)
	return all
}

// holds tells whether a reason holds, whatever others do.
func (b *book) holds(why int, r request) bool {
	switch why {
	case 1:
		return !b.jobMay(r.job)
	case 2:
		return len(r.job.Prompt) > b.Prompt || r.job.Most > b.Most
	case 3:
		return b.knows(r.stream)
	case 4:
		return len(b.taken) == b.Streams
	}
	return b.of(r.session) == b.Each
}

// ask is Ask.
func (b *book) ask(r request) int {
	for why := 1; why <= 5; why++ {
		if b.holds(why, r) {
			return why
		}
	}
	return 0
}

// take is Take.
func (b *book) take(r request) int {
	why := b.ask(r)
	if why == 0 {
		b.taken = append(b.taken, line{r.stream, r.session})
	}
	return why
}

// over is Over.
func (b *book) over(stream uint64) api.Errno {
	if !b.has(stream) {
		return api.ErrNone
	}
	b.taken = slices.DeleteFunc(b.taken, func(l line) bool { return l.stream == stream })
	b.turns[stream] = len(b.overs)
	b.overs = append(b.overs, stream)
	return api.OK
}

// oldest is the stream that is remembered the longest, if one is.
func (b *book) oldest() (uint64, bool) {
	if len(b.overs) == 0 {
		return 0, false
	}
	return b.overs[max(0, len(b.overs)-kept)], true
}

// gone is the stream that went last, if one did; it may have been taken anew.
func (b *book) gone() (uint64, bool) {
	if len(b.overs) <= kept {
		return 0, false
	}
	return b.overs[len(b.overs)-kept-1], true
}

// pair is a table, and its book.
type pair struct {
	table *Table
	book  *book
}

// someConfig is a configuration of 5 tokens.
func someConfig() api.Config {
	return api.Config{Seed: 3, Vocab: 5, Dim: 2, Layers: 1, Top: 5, Heat: 8}
}

// of is a setting of so many streams, so many of each session, and jobs of up to 6 tokens and 9 that follow.
func of(streams, each int) Setting {
	return Setting{Config: someConfig(), Streams: streams, Each: each, Prompt: 6, Most: 9}
}

// newTable is a table.
func newTable(t *testing.T, s Setting) *Table {
	t.Helper()
	z, err := New(s)
	if z == nil || err != api.OK {
		t.Fatalf("New(%+v) is %v, %v", s, z, err)
	}
	return z
}

// newPair is a table, and its book.
func newPair(t *testing.T, s Setting) pair {
	t.Helper()
	p := pair{table: newTable(t, s), book: newBook(s)}
	p.check(t)
	return p
}

// copied is another pair, to which the same was done.
func (p pair) copied() pair {
	one := &Table{setting: p.table.setting, taken: maps.Clone(p.table.taken), remembered: maps.Clone(p.table.remembered), order: slices.Clone(p.table.order)}
	other := &book{Setting: p.book.Setting, taken: slices.Clone(p.book.taken), turns: maps.Clone(p.book.turns), overs: slices.Clone(p.book.overs)}
	return pair{table: one, book: other}
}

// asks asks both, who answer the same.
func (p pair) asks(t *testing.T, r request) int {
	t.Helper()
	got, want := p.table.Ask(r.stream, r.session, r.job), p.book.ask(r)
	if got != want {
		t.Fatalf("Ask(%+v) is %d, want %d, of %s", r, got, want, p.book)
	}
	return got
}

// offers has both take one, who answer the same; nothing else is asked.
func (p pair) offers(t *testing.T, r request) int {
	t.Helper()
	got, want := p.table.Take(r.stream, r.session, r.job), p.book.take(r)
	if got != want {
		t.Fatalf("Take(%+v) is %d, want %d, of %s", r, got, want, p.book)
	}
	return got
}

// ends has one be over for both, who answer the same; nothing else is asked.
func (p pair) ends(t *testing.T, stream uint64) api.Errno {
	t.Helper()
	got, want := p.table.Over(stream), p.book.over(stream)
	if got != want {
		t.Fatalf("Over(%d) is %v, want %v, of %s", stream, got, want, p.book)
	}
	return got
}

// must has both take one, who answer what is wanted, as Ask does ahead of it, and tells where they are not the same behind it.
func (p pair) must(t *testing.T, r request, want int) {
	t.Helper()
	if got := p.asks(t, r); got != want {
		t.Fatalf("Ask(%+v) is %d, want %d, of %s", r, got, want, p.book)
	}
	if got := p.offers(t, r); got != want {
		t.Fatalf("Take(%+v) is %d, want %d, of %s", r, got, want, p.book)
	}
	p.check(t)
}

// takes takes one of a job without tokens.
func (p pair) takes(t *testing.T, stream, session uint64) {
	t.Helper()
	p.must(t, request{stream: stream, session: session}, Taken)
}

// mustEnd has one be over, that is taken.
func (p pair) mustEnd(t *testing.T, stream uint64) {
	t.Helper()
	if err := p.ends(t, stream); err != api.OK {
		t.Fatalf("Over(%d) is %v, of %s", stream, err, p.book)
	}
	p.check(t)
}

// mustNotEnd has one not be over, as it is not taken.
func (p pair) mustNotEnd(t *testing.T, stream uint64) {
	t.Helper()
	if err := p.ends(t, stream); err != api.ErrNone {
		t.Fatalf("Over(%d) is %v, of %s", stream, err, p.book)
	}
	p.check(t)
}

// String tells of a book what a fault is found by.
func (b *book) String() string {
	last := b.overs[max(0, len(b.overs)-5):]
	return fmt.Sprintf("%+v, with %v taken and %d over, the last ones %v", b.Setting, b.taken, len(b.overs), last)
}

// someJobs are jobs of each kind: that may be and is not long, that is just as long as it may, that is longer in either way, and that may not be.
func (b *book) someJobs() []api.Job {
	vocab := b.Config.Vocab
	return []api.Job{
		{}, {Seed: greatest, Prompt: prompt(b.Prompt, vocab-1), Most: b.Most}, {Prompt: prompt(b.Prompt+1, 1)}, {Most: b.Most + 1}, {Most: -1}, {Prompt: []int{vocab}},
	}
}

// prompt are so many tokens, all the same.
func prompt(many, token int) []int { return slices.Repeat([]int{token}, many) }

// someStreams are streams of each kind: the first and the last one that is taken, the newest, one between and the oldest one that is remembered, the one behind it and the one that went last, and one that is of no kind.
func (b *book) someStreams() []uint64 {
	all := []uint64{0, greatest, 1<<63 + 12345}
	if n := len(b.taken); n > 0 {
		all = append(all, b.taken[0].stream, b.taken[n-1].stream, b.taken[n-1].stream+1)
	}
	if n := len(b.overs); n > 0 {
		oldest, _ := b.oldest()
		all = append(all, oldest, b.overs[min(max(0, n-kept)+1, n-1)], b.overs[max(0, n-kept/2)], b.overs[n-1])
	}
	if gone, ok := b.gone(); ok {
		all = append(all, gone)
	}
	return all
}

// someSessions are sessions: of streams that are taken, and others.
func (b *book) someSessions() []uint64 {
	all := []uint64{0, 1, greatest}
	if n := len(b.taken); n > 0 {
		all = append(all, b.taken[0].session, b.taken[n/2].session, b.taken[n-1].session)
	}
	return all
}

// check tells where a table tells otherwise than its book.
func (p pair) check(t *testing.T) {
	t.Helper()
	if got, want := p.table.Streams(), p.book.streams(); !slices.Equal(got, want) {
		t.Fatalf("Streams are %v, want %v, of %s", got, want, p.book)
	}
	for _, session := range p.book.someSessions() {
		if got, want := p.table.Of(session), p.book.of(session); got != want {
			t.Fatalf("Of(%d) is %d, want %d, of %s", session, got, want, p.book)
		}
	}
	sessions, jobs := p.book.someSessions(), p.book.someJobs()
	for at, stream := range p.book.someStreams() {
		if got, want := p.table.Knows(stream), p.book.knows(stream); got != want {
			t.Fatalf("Knows(%d) is %v, want %v, of %s", stream, got, want, p.book)
		}
		// Not of each stream with each session and each job, as there would be too many.
		p.asks(t, request{stream, sessions[at%len(sessions)], jobs[at%len(jobs)]})
		p.asks(t, request{stream: stream, session: sessions[(at+1)%len(sessions)]})
	}
}

// checkAll tells where a table tells otherwise than its book of any stream that it took, with any session and any job.
func (p pair) checkAll(t *testing.T) {
	t.Helper()
	p.check(t)
	for _, stream := range p.book.overs {
		if got, want := p.table.Knows(stream), p.book.knows(stream); got != want {
			t.Fatalf("Knows(%d) is %v, want %v, of %s", stream, got, want, p.book)
		}
	}
	for _, l := range p.book.taken {
		if got, want := p.table.Of(l.session), p.book.of(l.session); got != want {
			t.Fatalf("Of(%d) is %d, want %d, of %s", l.session, got, want, p.book)
		}
		p.asks(t, request{stream: l.stream, session: l.session})
		p.asks(t, request{stream: l.stream ^ 1<<62, session: l.session})
	}
	for _, stream := range p.book.someStreams() {
		for _, session := range p.book.someSessions() {
			for _, job := range p.book.someJobs() {
				p.asks(t, request{stream, session, job})
			}
		}
	}
}

// checkOrder tells where a table has what is remembered in another order than its book: told by a copy of it, of which the streams go one by one, as others are over.
func (p pair) checkOrder(t *testing.T) {
	t.Helper()
	c := p.copied()
	if len(c.book.taken) > 0 {
		c.ends(t, c.book.taken[0].stream)
	}
	for fresh := uint64(1 << 61); ; fresh++ {
		next := len(c.book.overs) - kept
		if next >= len(p.book.overs) {
			return
		}
		if next >= 0 && !c.table.Knows(c.book.overs[next]) {
			t.Fatalf("%d went ahead of its turn, of %s", c.book.overs[next], p.book)
		}
		c.offers(t, request{stream: fresh, session: 1 << 60})
		c.ends(t, fresh)
		if next >= 0 && c.table.Knows(c.book.overs[next]) {
			t.Fatalf("%d did not go in its turn, of %s", c.book.overs[next], p.book)
		}
	}
}

// wantWhy tells where Ask answers something else.
func wantWhy(t *testing.T, z *Table, r request, want int) {
	t.Helper()
	if got := z.Ask(r.stream, r.session, r.job); got != want {
		t.Fatalf("Ask(%+v) is %d, want %d", r, got, want)
	}
}

// wantStreams tells where other streams are taken.
func wantStreams(t *testing.T, z *Table, want ...uint64) {
	t.Helper()
	if got := z.Streams(); !slices.Equal(got, want) {
		t.Fatalf("Streams are %v, want %v", got, want)
	}
}

// wantOf tells where another number of a session is taken.
func wantOf(t *testing.T, z *Table, session uint64, want int) {
	t.Helper()
	if got := z.Of(session); got != want {
		t.Fatalf("Of(%d) is %d, want %d", session, got, want)
	}
}

// wantKnows tells where a stream is known, or is not.
func wantKnows(t *testing.T, z *Table, stream uint64, want bool) {
	t.Helper()
	if got := z.Knows(stream); got != want {
		t.Fatalf("Knows(%d) is %v", stream, got)
	}
}
