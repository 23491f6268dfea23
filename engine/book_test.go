package engine

import (
	"slices"
	"strconv"
	"strings"
	"testing"

	"garboard/api"
	"garboard/decode"
	"garboard/model"
	"garboard/msg"
)

// line is an attempt as the chapter's words tell of it.
type line struct {
	number  uint64
	job     api.Job
	known   int
	inBatch bool
}

// book is a replica as the chapter's words tell of it: one list of attempts, in the order in which they came, and no text that is gone through step by step: what follows is asked of layer 12's Ref.
type book struct {
	set    Setting
	refs   refs
	inc    uint64
	drains bool
	lines  []line
	texts  [][]int // the beginnings that were put since the last crash, each once
}

// refs are what follows jobs, each asked for once.
type refs struct {
	model *model.Model
	known map[string][]int
}

// newRefs are those of a configuration.
func newRefs(t *testing.T, c api.Config) refs {
	t.Helper()
	m, err := model.New(c)
	if err != api.OK {
		t.Fatal(err)
	}
	return refs{model: m, known: map[string][]int{}}
}

// of is what follows a job that may be.
func (k refs) of(t *testing.T, j api.Job) []int {
	t.Helper()
	var name strings.Builder
	name.WriteString(strconv.FormatUint(j.Seed, 10) + " " + strconv.Itoa(j.Most))
	for _, token := range j.Prompt {
		name.WriteString(" " + strconv.Itoa(token))
	}
	told, ok := k.known[name.String()]
	if !ok {
		var err api.Errno
		if told, err = decode.Ref(k.model, j); err != api.OK {
			t.Fatal(err)
		}
		k.known[name.String()] = told
	}
	return slices.Clone(told)
}

// at is where the line of a number stands: -1 if there is none.
func (b *book) at(number uint64) int {
	return slices.IndexFunc(b.lines, func(l line) bool { return l.number == number })
}

// count is how many lines are in the batch, or wait.
func (b *book) count(inBatch bool) int {
	n := 0
	for _, l := range b.lines {
		if l.inBatch == inBatch {
			n++
		}
	}
	return n
}

// jobMay is layer 12's May, by its words.
func (b *book) jobMay(j api.Job) bool {
	bad := slices.ContainsFunc(j.Prompt, func(t int) bool { return t < 0 || t > b.set.Config.Vocab-1 })
	return !bad && len(j.Prompt) <= 255 && 0 <= j.Most && j.Most <= 256
}

// refused tells whether a Start of this incarnation, of a number that is not there, is refused.
func (b *book) refused(m msg.Msg) bool {
	if !b.jobMay(m.Job) || m.N > uint64(m.Job.Most) {
		return true
	}
	text := 1 + len(m.Job.Prompt) + int(m.N)
	return text > 256 || b.drains || b.count(false) == b.set.Queue
}

// arrive is Arrive.
func (b *book) arrive(m msg.Msg) []msg.Msg {
	here := m.Inc == b.inc
	switch {
	case m.Kind == msg.Probe:
		return []msg.Msg{{Kind: msg.Pong, N: m.N, Inc: b.inc, Count: uint64(len(b.lines))}}
	case m.Kind == msg.Start && !here:
		return []msg.Msg{{Kind: msg.Over, Attempt: m.Attempt, Inc: m.Inc, N: m.N, Why: 3}}
	case m.Kind == msg.Start && b.at(m.Attempt) >= 0:
		return nil
	case m.Kind == msg.Start && b.refused(m):
		return []msg.Msg{{Kind: msg.Over, Attempt: m.Attempt, Inc: b.inc, N: m.N, Why: 2}}
	case m.Kind == msg.Start:
		job := m.Job
		job.Prompt = slices.Clone(job.Prompt)
		b.lines = append(b.lines, line{number: m.Attempt, job: job, known: int(m.N)})
	case m.Kind == msg.Quit && here && b.at(m.Attempt) >= 0:
		b.lines = slices.Delete(b.lines, b.at(m.Attempt), b.at(m.Attempt)+1)
	case m.Kind == msg.Drain && here:
		b.drains = true
	}
	return nil
}

// step is Step.
func (b *book) step(t *testing.T) []msg.Msg {
	t.Helper()
	for i := range b.lines {
		if !b.lines[i].inBatch && b.count(true) < b.set.Batch {
			b.lines[i].inBatch = true
		}
	}
	var told []msg.Msg
	var left []line
	for _, l := range b.lines {
		if !l.inBatch {
			left = append(left, l)
			continue
		}
		all := b.refs.of(t, l.job)
		next := all[min(l.known, len(all)):]
		next = next[:min(len(next), b.set.Chunk)]
		if len(next) > 0 {
			told = append(told, msg.Msg{Kind: msg.Emit, Attempt: l.number, Inc: b.inc, N: uint64(l.known), List: next})
		}
		l.known += len(next)
		if l.known >= len(all) {
			told = append(told, msg.Msg{Kind: msg.Over, Attempt: l.number, Inc: b.inc, N: uint64(l.known), Why: 1})
			b.put(slices.Concat([]int{0}, l.job.Prompt, all))
		} else {
			left = append(left, l)
		}
	}
	b.lines = left
	return told
}

// put notes the beginnings of a text.
func (b *book) put(text []int) {
	if b.set.Pages == 0 {
		return
	}
	for n := b.set.Size; n <= len(text); n += b.set.Size {
		if !slices.ContainsFunc(b.texts, func(o []int) bool { return slices.Equal(o, text[:n]) }) {
			b.texts = append(b.texts, text[:n])
		}
	}
}

// cached is Cached: while not all pages are taken none is taken from another, and behind that each that comes is one that goes.
func (b *book) cached() int { return min(len(b.texts), b.set.Pages) }

// crash is Crash.
func (b *book) crash() uint64 {
	b.lines, b.texts, b.drains = nil, nil, false
	b.inc++
	return b.inc
}

// numbers are Attempts.
func (b *book) numbers() []uint64 {
	var numbers []uint64
	for _, l := range b.lines {
		numbers = append(numbers, l.number)
	}
	slices.Sort(numbers)
	return numbers
}

// pair is a replica, and its book.
type pair struct {
	replica *Replica
	book    *book
}

// newPair is a replica of a setting that may be, and its book.
func newPair(t *testing.T, set Setting, k refs) pair {
	t.Helper()
	return pair{replica: mustNew(t, set), book: &book{set: set, refs: k, inc: 1}}
}

// mustNew is a replica of a setting that may be.
func mustNew(t *testing.T, set Setting) *Replica {
	t.Helper()
	r, err := New(set)
	if err != api.OK || r == nil {
		t.Fatalf("New(%+v): %v, %v", set, r, err)
	}
	return r
}

// arrive lets a message arrive at both, and holds what they tell, and are then, against each other.
func (p pair) arrive(t *testing.T, m msg.Msg) []msg.Msg {
	t.Helper()
	want := p.book.arrive(m)
	got := p.replica.Arrive(m)
	checkTold(t, got, want)
	p.check(t)
	return got
}

// step lets both go on.
func (p pair) step(t *testing.T) []msg.Msg {
	t.Helper()
	want := p.book.step(t)
	got := p.replica.Step()
	checkTold(t, got, want)
	p.check(t)
	return got
}

// crash lets both crash.
func (p pair) crash(t *testing.T) {
	t.Helper()
	if got, want := p.replica.Crash(), p.book.crash(); got != want {
		t.Fatalf("Crash: %d, want %d", got, want)
	}
	p.check(t)
}

// check holds all that a replica tells, and what is known of each attempt, against the book.
func (p pair) check(t *testing.T) {
	t.Helper()
	r, b := p.replica, p.book
	if r.Inc() != b.inc || r.Load() != len(b.lines) || r.Drains() != b.drains || r.Cached() != b.cached() {
		t.Fatalf("%d, %d, %v, %d, want %d, %d, %v, %d", r.Inc(), r.Load(), r.Drains(), r.Cached(), b.inc, len(b.lines), b.drains, b.cached())
	}
	if !slices.Equal(r.Attempts(), b.numbers()) {
		t.Fatalf("Attempts: %v, want %v", r.Attempts(), b.numbers())
	}
	if !slices.EqualFunc(linesOf(t, r), b.lines, sameLine) {
		t.Fatalf("attempts %+v, want %+v", linesOf(t, r), b.lines)
	}
}

// linesOf are the attempts of a replica, in the order in which they came.
func linesOf(t *testing.T, r *Replica) []line {
	t.Helper()
	var lines []line
	for i, number := range slices.Concat(r.batch, r.queue) {
		a := r.attempts[number]
		if a == nil || a.number != number {
			t.Fatalf("there is no attempt %d in %v", number, r.attempts)
		}
		lines = append(lines, line{number: a.number, job: a.job, known: a.known, inBatch: i < len(r.batch)})
	}
	return lines
}

// sameLine tells whether two attempts are the same.
func sameLine(a, b line) bool {
	return a.number == b.number && a.known == b.known && a.inBatch == b.inBatch &&
		a.job.Seed == b.job.Seed && a.job.Most == b.job.Most && slices.Equal(a.job.Prompt, b.job.Prompt)
}

// checkTold tells where other messages are told than are wanted, or ones that could not be laid.
func checkTold(t *testing.T, got, want []msg.Msg) {
	t.Helper()
	if !slices.EqualFunc(got, want, msg.Same) {
		t.Fatalf("told %+v, want %+v", got, want)
	}
	for _, m := range got {
		if !msg.May(m) {
			t.Fatalf("%+v may not be", m)
		}
	}
}
