package things

import (
	"strings"

	"braid/api"
	"braid/causes"
)

// row: the inserts of a sequence, as a ring: each has the id of the one that
// stands next, from {0 0}, the front, back to it. Those that were deleted stay,
// without their texts, as others hang on them.
type row map[api.Id]insert

type insert struct {
	next  api.Id
	rank  causes.Rank
	text  string
	shown bool
}

func (r row) take(u api.Update) {
	if u.Op.Kind == api.Delete {
		r.hide(u.Op.Anchor)
		return
	}
	x := insert{rank: causes.RankOf(u), text: u.Op.Text, shown: true}
	r.putBehind(r.neighbour(u.Op.Anchor, x.rank), x)
}

func (r row) hide(id api.Id) {
	x := r[id]
	x.text = ""
	x.shown = false
	r[id] = x
}

// neighbour is the one right behind which an insert of this rank stands, if it
// hangs on anchor. The ones of greater rank that it passes hang on anchor too,
// or on such as do; the one of lower rank at which it stops hangs on anchor, or
// stands behind all that do: for what hangs on one is of greater rank than it.
func (r row) neighbour(anchor api.Id, rank causes.Rank) api.Id {
	at := anchor
	for {
		next := r[at].next
		if next == (api.Id{}) || r[next].rank.Compare(rank) < 0 {
			return at
		}
		at = next
	}
}

func (r row) putBehind(id api.Id, x insert) {
	before := r[id]
	x.next = before.next
	before.next = x.rank.Id
	r[id] = before
	r[x.rank.Id] = x
}

func (r row) value() api.Value {
	var v api.Value
	for id := r[api.Id{}].next; id != (api.Id{}); id = r[id].next {
		if x := r[id]; x.shown {
			v.Texts = append(v.Texts, strings.Clone(x.text))
			v.Ids = append(v.Ids, id)
		}
	}
	return v
}
