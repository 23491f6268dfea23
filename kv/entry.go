package kv

import (
	"garboard/api"
	"garboard/decode"
)

// mostSize is how many tokens a page may have.
const mostSize = 16

// piece are the tokens of a page. In one cache all pages have as many: that 0 stands behind fewer than the most makes no two of them like.
type piece [mostSize]int

// pieceOf are tokens as a piece; they are at most so many.
func pieceOf(tokens []int) piece {
	var p piece
	copy(p[:], tokens)
	return p
}

// entry is a beginning of a text: it goes on behind the longest one of its own beginnings.
type entry struct {
	ahead *entry // that beginning
	by    piece  // the tokens behind it
	next  map[piece]*entry
	state *decode.State
	page  int
	used  uint64 // the time of its last use
}

// isLeaf tells whether it is no beginning of another one.
func (e *entry) isLeaf() bool { return len(e.next) == 0 }

// path are the entries that are beginnings of a text, the shortest first.
func (c *Cache) path(tokens []int) []*entry {
	var path []*entry
	at := c.root
	for n := c.size; n <= len(tokens); n += c.size {
		at = at.next[pieceOf(tokens[n-c.size:n])]
		if at == nil {
			break
		}
		path = append(path, at)
	}
	return path
}

// use lets the time go on, and uses the entries that are beginnings of a text: the longest one, and how many tokens it has.
func (c *Cache) use(tokens []int) (*entry, int) {
	c.time++
	longest, n := c.root, 0
	for _, e := range c.path(tokens) {
		e.used = c.time
		longest, n = e, n+c.size
	}
	return longest, n
}

// add makes an entry, used now, behind another one: nil if there is no page for it.
func (c *Cache) add(ahead *entry, by piece, s *decode.State) *entry {
	c.makeRoom()
	n, err := c.pool.Take()
	if err != api.OK {
		return nil
	}
	e := &entry{ahead: ahead, by: by, next: map[piece]*entry{}, state: s, page: n, used: c.time}
	ahead.next[by] = e
	c.byPage[n] = e
	return e
}

// makeRoom lets the leaf go that was used the longest ago, if no page is free. One that is used now stays: it is a beginning of the text that is put.
func (c *Cache) makeRoom() {
	if c.pool.Free() > 0 {
		return
	}
	if e := c.oldest((*entry).isLeaf); e != nil && e.used < c.time {
		c.letGo(e)
	}
}

// oldest is the entry that was used the longest ago, of those of a kind: nil if there is none.
func (c *Cache) oldest(is func(*entry) bool) *entry {
	var oldest *entry
	for _, n := range c.pool.Used() {
		e := c.byPage[n]
		if is(e) && (oldest == nil || e.used < oldest.used) {
			oldest = e
		}
	}
	return oldest
}

// letGo lets a leaf go, and its page.
func (c *Cache) letGo(e *entry) {
	delete(e.ahead.next, e.by)
	c.byPage[e.page] = nil
	c.pool.Drop(e.page)
}
