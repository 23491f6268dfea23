package ptree

import (
	"cmp"
	"iter"
	"slices"

	"garboard/varint"
)

// mark is a beginning of a text, and a replica that is thought to have it.
type mark struct {
	name    string // the replica and the tokens, as it stands in the map
	replica uint64
	length  int    // how many tokens it has
	used    uint64 // the time of its last use
}

// textOf are tokens as bytes. As no number's bytes begin with those of another one, it begins with just the texts of its beginnings.
func textOf(tokens []int) string {
	nums := make([]uint64, len(tokens))
	for i, token := range tokens {
		nums[i] = varint.Fold(int64(token))
	}
	return string(varint.Put(nil, nums...))
}

// nameOf is the name of a mark. The replica stands ahead, so that the names of a text's beginnings are beginnings of its name.
func nameOf(tokens []int, replica uint64) string {
	return string(varint.Put(nil, replica)) + textOf(tokens)
}

// text is the text of its tokens.
func (m *mark) text() string { return m.name[varint.Size(m.replica):] }

// tokens are its tokens, as they were handed in.
func (m *mark) tokens() []int64 {
	// The program laid these bytes itself: no error can come.
	nums, _ := varint.All([]byte(m.text()), m.length)
	tokens := make([]int64, len(nums))
	for i, n := range nums {
		tokens[i] = varint.Unfold(n)
	}
	return tokens
}

// compare tells which of two goes first.
func (m *mark) compare(other *mark) int {
	first := cmp.Or(cmp.Compare(m.used, other.used), cmp.Compare(other.length, m.length), cmp.Compare(m.replica, other.replica))
	if first != 0 {
		return first
	}
	return slices.Compare(m.tokens(), other.tokens())
}

// those are the marks of a kind, in no order; they may be deleted on the way.
func (t *Tree) those(is func(*mark) bool) iter.Seq[*mark] {
	return func(yield func(*mark) bool) {
		for _, m := range t.marks {
			if is(m) && !yield(m) {
				return
			}
		}
	}
}

// longest is how many tokens a mark has at most: there are no more marks of one text and replica than room.
func (t *Tree) longest() int { return t.room * t.size }

// cut are as many tokens as marks may have.
func (t *Tree) cut(tokens []int) []int { return tokens[:min(len(tokens), t.longest())] }

// useThere uses the marks of a text's beginnings that are there; it answers those that are not, the shortest first, as ones that are used now.
func (t *Tree) useThere(tokens []int, replica uint64) []*mark {
	var fresh []*mark
	// All names share the memory of the longest one.
	whole, end := nameOf(tokens, replica), varint.Size(replica)
	for n := t.size; n <= len(tokens); n += t.size {
		for _, token := range tokens[n-t.size : n] {
			end += varint.Size(varint.Fold(int64(token)))
		}
		if m := t.marks[whole[:end]]; m != nil {
			m.used = t.time
			continue
		}
		fresh = append(fresh, &mark{name: whole[:end], replica: replica, length: n, used: t.time})
	}
	return fresh
}

// makeRoom lets marks go until there is room for so many. Those that are used now and these are together no more than room: none of them goes.
func (t *Tree) makeRoom(count int) {
	over := len(t.marks) + count - t.room
	if over <= 0 {
		return
	}
	isOld := func(m *mark) bool { return m.used < t.time }
	for _, m := range slices.SortedFunc(t.those(isOld), (*mark).compare)[:over] {
		delete(t.marks, m.name)
	}
}
