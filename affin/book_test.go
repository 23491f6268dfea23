package affin

import (
	"cmp"
	"slices"
	"testing"

	"garboard/api"
)

// line is a binding as the chapter's words tell of it.
type line struct {
	session, replica uint64
	end              int64
}

// book are the bindings of a table, and does what the chapter's words say, step by step: a plain list is looked through.
type book struct {
	room  int
	keep  int64
	now   int64
	lines []line
	went  map[string]int // by what the line that went for another one was told, how often
}

// goOn has the time of a call, and lets those go whose time is not behind it.
func (b *book) goOn(now int64) {
	isTime := now >= 0 && now <= 1<<40
	if isTime && now >= b.now {
		b.now = now
	}
	b.lines = slices.DeleteFunc(b.lines, func(l line) bool { return !(l.end > b.now) })
}

// at is where the line of a session stands: -1 if it is not bound.
func (b *book) at(session uint64) int {
	return slices.IndexFunc(b.lines, func(l line) bool { return l.session == session })
}

// goes is which line goes for another one: that which ends first, of these that of the least session; and by what it was told.
func goes(lines []line) (line, string) {
	end := slices.MinFunc(lines, func(x, y line) int { return cmp.Compare(x.end, y.end) }).end
	ended := slices.DeleteFunc(slices.Clone(lines), func(l line) bool { return l.end != end })
	if len(ended) == 1 {
		return ended[0], "end"
	}
	return slices.MinFunc(ended, func(x, y line) int { return cmp.Compare(x.session, y.session) }), "session"
}

// bind is Bind.
func (b *book) bind(now int64, session, replica uint64) {
	b.goOn(now)
	at := b.at(session)
	if at < 0 && len(b.lines) == b.room {
		gone, by := goes(b.lines)
		b.went[by]++
		at = b.at(gone.session)
	}
	if at >= 0 {
		b.lines = slices.Delete(b.lines, at, at+1)
	}
	b.lines = append(b.lines, line{session: session, replica: replica, end: b.now + b.keep})
}

// find is Find.
func (b *book) find(now int64, session uint64) (uint64, bool) {
	b.goOn(now)
	at := b.at(session)
	if at < 0 {
		return 0, false
	}
	b.lines[at].end = b.now + b.keep
	return b.lines[at].replica, true
}

// forget is Forget.
func (b *book) forget(now int64, replica uint64) int {
	b.goOn(now)
	count := 0
	for _, l := range b.lines {
		if l.replica == replica {
			count++
		}
	}
	b.lines = slices.DeleteFunc(b.lines, func(l line) bool { return l.replica == replica })
	return count
}

// length is Len.
func (b *book) length(now int64) int {
	b.goOn(now)
	return len(b.lines)
}

// newTable is a table without bindings.
func newTable(t *testing.T, room int, keep int64) *Table {
	t.Helper()
	table, err := New(room, keep)
	if table == nil || err != api.OK {
		t.Fatalf("New(%d, %d): %v", room, keep, err)
	}
	return table
}

// pair is a table, and its book.
type pair struct {
	table *Table
	book  *book
}

// newPair is a table without bindings, and its book.
func newPair(t *testing.T, room int, keep int64) pair {
	t.Helper()
	return pair{table: newTable(t, room, keep), book: &book{room: room, keep: keep, went: map[string]int{}}}
}

// bind binds a session in both.
func (p pair) bind(t *testing.T, now int64, session, replica uint64) {
	t.Helper()
	p.book.bind(now, session, replica)
	if !p.table.Bind(now, session, replica) {
		t.Fatalf("room %d, keep %d: Bind(%d, %d, %d) is false", p.book.room, p.book.keep, now, session, replica)
	}
	p.check(t)
}

// find asks both for a session's replica, which answer the same.
func (p pair) find(t *testing.T, now int64, session uint64) (uint64, bool) {
	t.Helper()
	got, ok := p.table.Find(now, session)
	want, wantOK := p.book.find(now, session)
	if got != want || ok != wantOK {
		t.Fatalf("room %d, keep %d: Find(%d, %d) is %d, %v, want %d, %v", p.book.room, p.book.keep, now, session, got, ok, want, wantOK)
	}
	p.check(t)
	return got, ok
}

// forget lets a replica's bindings go of both, which answer the same; how many these were.
func (p pair) forget(t *testing.T, now int64, replica uint64) int {
	t.Helper()
	got, want := p.table.Forget(now, replica), p.book.forget(now, replica)
	if got != want {
		t.Fatalf("room %d, keep %d: Forget(%d, %d) is %d, want %d", p.book.room, p.book.keep, now, replica, got, want)
	}
	p.check(t)
	return got
}

// length asks both how many there are, which answer the same.
func (p pair) length(t *testing.T, now int64) int {
	t.Helper()
	got, want := p.table.Len(now), p.book.length(now)
	if got != want {
		t.Fatalf("room %d, keep %d: Len(%d) is %d, want %d", p.book.room, p.book.keep, now, got, want)
	}
	p.check(t)
	return got
}

// linesOf are the bindings of a table, the least session first.
func linesOf(table *Table) []line {
	var all []line
	for session, b := range table.bindings {
		all = append(all, line{session: session, replica: b.replica, end: b.end})
	}
	return sorted(all)
}

// sorted are lines with the least session first.
func sorted(lines []line) []line {
	return slices.SortedFunc(slices.Values(lines), func(x, y line) int { return cmp.Compare(x.session, y.session) })
}

// check tells where a table is otherwise than its book, in what it tells and in what stands of each binding; and where there are more than room (P18.4).
func (p pair) check(t *testing.T) {
	t.Helper()
	if got := p.table.Now(); got != p.book.now {
		t.Fatalf("room %d, keep %d: Now is %d, want %d", p.book.room, p.book.keep, got, p.book.now)
	}
	if got, want := linesOf(p.table), sorted(p.book.lines); !slices.Equal(got, want) {
		t.Fatalf("room %d, keep %d, now %d: the bindings are\n%v, want\n%v", p.book.room, p.book.keep, p.book.now, got, want)
	}
	// A now that is none has the table's.
	if got := p.table.Len(-1); got != len(p.book.lines) || got > p.book.room {
		t.Fatalf("room %d, keep %d, now %d: Len is %d, want %d", p.book.room, p.book.keep, p.book.now, got, len(p.book.lines))
	}
}

// wantFound tells where a session is not found at its replica.
func wantFound(t *testing.T, table *Table, now int64, session, replica uint64) {
	t.Helper()
	if got, ok := table.Find(now, session); got != replica || !ok {
		t.Fatalf("Find(%d, %d) is %d, %v, want %d", now, session, got, ok, replica)
	}
}

// wantUnbound tells where a session is found.
func wantUnbound(t *testing.T, table *Table, now int64, session uint64) {
	t.Helper()
	if got, ok := table.Find(now, session); got != 0 || ok {
		t.Fatalf("Find(%d, %d) is %d, %v, want none", now, session, got, ok)
	}
}
