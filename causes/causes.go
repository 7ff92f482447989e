// Package causes: what an update is called, and what it knew of: see DOC.md
// (Words).
package causes

import (
	"cmp"

	"braid/api"
)

// Id of an update.
func Id(u api.Update) api.Id {
	return api.Id{Origin: u.Origin, Seq: u.Clock[u.Origin]}
}

// Rank: what the inserts of a sequence are ordered by.
type Rank struct {
	Age int
	Id  api.Id
}

// RankOf is an update's rank.
func RankOf(u api.Update) Rank {
	age := 0
	for _, n := range u.Clock {
		age += n
	}
	return Rank{age, Id(u)}
}

// Compare is below 0, 0 or above 0, as a is less than b, b itself, or greater.
func (a Rank) Compare(b Rank) int {
	return cmp.Or(
		cmp.Compare(a.Age, b.Age),
		cmp.Compare(a.Id.Origin, b.Id.Origin),
		cmp.Compare(a.Id.Seq, b.Id.Seq),
	)
}

// Reach: a number for each replica: how many of its updates are known. One
// stands for many clocks, so that an update is not held against each of them.
type Reach [api.MaxReplicas]int

// ReachOf is what an update knew of, itself among it.
func ReachOf(u api.Update) Reach { return Reach{}.With(u.Clock) }

// With is what is known in r or by this clock.
func (r Reach) With(clock []int) Reach {
	for i, n := range clock {
		r[i] = max(r[i], n)
	}
	return r
}

// Within is what is known in r and in other.
func (r Reach) Within(other Reach) Reach {
	for i, n := range other {
		r[i] = min(r[i], n)
	}
	return r
}

// Has tells whether the update of this id is known.
func (r Reach) Has(id api.Id) bool { return r[id.Origin] >= id.Seq }

// IsNext tells whether all that u knew of is known, but u itself is not.
func (r Reach) IsNext(u api.Update) bool {
	r[u.Origin]++
	return r[u.Origin] == u.Clock[u.Origin] && r == r.With(u.Clock)
}
