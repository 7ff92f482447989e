package things

import (
	"strings"

	"braid/api"
	"braid/causes"
)

// row: the inserts of a sequence, as a ring: each has the id of the one that
// stands next, from {0 0}, the front, back to it. Those that were deleted stay,
// without their texts, as others hang on them.
type row map[api.Id]insert

type insert struct {
	next  api.Id
	rank  causes.Rank
	text  string
	shown bool
}

func (r row) take(u api.Update) {
	if u.Op.Kind == api.Delete {
		r.hide(u.Op.Anchor)
		return
	}
	x := insert{rank: causes.RankOf(u), text: u.Op.Text, shown: true}
	r.putBehind(r.neighbour(r.hangsOn(u.Op.Anchor, x.rank), x.rank), x)
}

// hangsOn is the insert on which one of this rank hangs, or {0 0}: the front.
func (r row) hangsOn(anchor api.Id, rank causes.Rank) api.Id {
	if on, ok := r[anchor]; ok && on.rank.Age < rank.Age {
		return anchor
	}
	return api.Id{}
}

// hide leaves an id alone that is none of the row: an entry for it would stand
// in no ring.
func (r row) hide(id api.Id) {
	x, ok := r[id]
	if !ok {
		return
	}
	x.text = ""
	x.shown = false
	r[id] = x
}

// neighbour is the one right behind which an insert of this rank stands, if it
// hangs on anchor. The ones of greater rank that it passes hang on anchor too,
// or on such as do; the one of lower rank at which it stops hangs on anchor, or
// stands behind all that do: for what hangs on one is of greater rank than it.
func (r row) neighbour(anchor api.Id, rank causes.Rank) api.Id {
	at := anchor
	for {
		next := r[at].next
		if next == (api.Id{}) || r[next].rank.Compare(rank) < 0 {
			return at
		}
		at = next
	}
}

func (r row) putBehind(id api.Id, x insert) {
	before := r[id]
	x.next = before.next
	before.next = x.rank.Id
	r[id] = before
	r[x.rank.Id] = x
}

func (r row) value() api.Value {
	var v api.Value
	for id := r[api.Id{}].next; id != (api.Id{}); id = r[id].next {
		if x := r[id]; x.shown {
			v.Texts = append(v.Texts, strings.Clone(x.text))
			v.Ids = append(v.Ids, id)
		}
	}
	return v
}
