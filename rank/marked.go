package rank

import (
	"cmp"
	"slices"

	"garboard/sat"
)

// mostCounted is the most that a candidate's numbers, and weights, count as in a mark.
const mostCounted = 1 << 20

// marked is a candidate with its mark.
type marked struct {
	Candidate
	mark int64
}

// counted is what a number counts as in a mark.
func counted(n int64) int64 { return sat.Within(n, 0, mostCounted) }

// times is a number by its weight.
func times(n int, weight int64) int64 { return sat.Mul(counted(int64(n)), counted(weight)) }

// compare tells which of two is asked first. Places are held against each other as they are: it is in a mark alone that they are within bounds.
func (m marked) compare(other marked) int {
	return cmp.Or(cmp.Compare(other.mark, m.mark), cmp.Compare(m.Place, other.Place), cmp.Compare(m.Replica, other.Replica))
}

// ordered are those that may be asked, in their order, of several of one number the first one of that.
func ordered(l []Candidate, w Weights) []marked {
	var all []marked
	for _, c := range l {
		if c.Open {
			all = append(all, marked{Candidate: c, mark: Mark(c, w)})
		}
	}
	// Stable, as of those that are wholly alike the one that stands first comes first: their loads may be unlike, by which Best tells.
	slices.SortStableFunc(all, marked.compare)
	return firsts(all)
}

// firsts are those that stand ahead of all others of their number.
func firsts(all []marked) []marked {
	var first []marked
	met := map[uint64]struct{}{}
	for _, m := range all {
		if _, again := met[m.Replica]; !again {
			met[m.Replica] = struct{}{}
			first = append(first, m)
		}
	}
	return first
}

// without are those whose number is none of but.
func without(l []Candidate, but ...uint64) []Candidate {
	left := map[uint64]struct{}{}
	for _, number := range but {
		left[number] = struct{}{}
	}
	var rest []Candidate
	for _, c := range l {
		if _, out := left[c.Replica]; !out {
			rest = append(rest, c)
		}
	}
	return rest
}
