package engine

import (
	"slices"

	"garboard/api"
	"garboard/decode"
	"garboard/msg"
)

// firstToken is the one that every text begins with, ahead of its prompt.
const firstToken = 0

// attempt is one that waits or is in the batch.
type attempt struct {
	number uint64
	job    api.Job
	known  int           // how many tokens are known: those that N told of, and those told since
	state  *decode.State // the text so far; nil until it is gone through
}

// start takes a Start: the attempt waits, or is told to be over.
func (r *Replica) start(m msg.Msg) []msg.Msg {
	switch {
	case m.Inc != r.inc:
		return []msg.Msg{over(m.Attempt, m.Inc, m.N, Gone)}
	case r.attempts[m.Attempt] != nil:
		return nil
	case !r.takes(m):
		return []msg.Msg{over(m.Attempt, m.Inc, m.N, Refused)}
	}
	job := m.Job
	// The prompt is the sender's, who may write into it.
	job.Prompt = slices.Clone(job.Prompt)
	r.attempts[m.Attempt] = &attempt{number: m.Attempt, job: job, known: int(m.N)}
	r.queue = append(r.queue, m.Attempt)
	return nil
}

// takes tells whether a Start's attempt may wait here.
func (r *Replica) takes(m msg.Msg) bool {
	// N is held against Most first: behind that it is no more than MaxTokens, and sums with it stay small.
	return decode.May(r.model.Config(), m.Job) &&
		m.N <= uint64(m.Job.Most) &&
		len(textOf(m.Job))+int(m.N) <= api.MaxTokens &&
		!r.drains &&
		len(r.queue) < r.room.queue
}

// over tells that an attempt is over.
func over(number, inc, n uint64, why int) msg.Msg {
	return msg.Msg{Kind: msg.Over, Attempt: number, Inc: inc, N: n, Why: why}
}

// letGo lets the attempt of a number go, if there is one.
func (r *Replica) letGo(number uint64) {
	delete(r.attempts, number)
	r.queue = without(r.queue, number)
	r.batch = without(r.batch, number)
}

// without are the numbers but one.
func without(numbers []uint64, number uint64) []uint64 {
	return slices.DeleteFunc(numbers, func(n uint64) bool { return n == number })
}

// fillBatch takes those that wait longest into the batch, as long as it has places.
func (r *Replica) fillBatch() {
	n := min(len(r.queue), r.room.batch-len(r.batch))
	r.batch = append(r.batch, r.queue[:n]...)
	r.queue = slices.Delete(r.queue, 0, n)
}

// goOn tells the next tokens of an attempt, and, if nothing follows any more, that it is over.
func (r *Replica) goOn(a *attempt) []msg.Msg {
	if a.state == nil {
		a.state = r.begin(a)
	}
	tokens, state, ended := decode.From(r.model, a.job, a.state, a.behind(), r.chunk)
	var told []msg.Msg
	if len(tokens) > 0 {
		told = append(told, msg.Msg{Kind: msg.Emit, Attempt: a.number, Inc: r.inc, N: uint64(a.known), List: tokens})
	}
	a.state = state
	a.known += len(tokens)
	if ended {
		told = append(told, over(a.number, r.inc, uint64(a.known), Done))
		r.cache.Put(a.state)
		r.letGo(a.number)
	}
	return told
}

// begin is the state behind the prompt and the tokens that are known already, or behind all that follows, if that is fewer.
func (r *Replica) begin(a *attempt) *decode.State {
	_, state, _ := decode.From(r.model, a.job, r.through(textOf(a.job)), 0, a.known)
	return state
}

// through is the state of a text that may be: what the cache has of it is not gone through anew.
func (r *Replica) through(text []int) *decode.State {
	state, n := r.cache.Find(text)
	if n == 0 {
		// There is a model, and each token is one and has room: neither call is refused.
		state, _ = decode.New(r.model)
		n = state.Len()
	}
	for _, t := range text[n:] {
		state, _ = state.Feed(t)
	}
	return state
}

// textOf is a job's text, as far as its prompt.
func textOf(j api.Job) []int {
	return append([]int{firstToken}, j.Prompt...)
}

// behind is how many tokens the text has behind the prompt: fewer than are known, if N told of more than follow.
func (a *attempt) behind() int {
	return a.state.Len() - len(textOf(a.job))
}
