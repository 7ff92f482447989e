package mesh

import (
	"slices"

	"braid/api"
	"braid/causes"
	"braid/frame"
	"braid/things"
)

// replica: it tells another one at each tick all the updates that this one is
// not known to have. So what a frame brings is always enough to take all of it
// in, and nothing has to wait for a frame that was lost.
type replica struct {
	self    int
	known   map[int]causes.Reach // what each replica surely has, within the own row: just what this one has
	things  *things.Things
	log     []api.Update // those that are not known to be everywhere, in the order in which they came
	applied []api.Id
}

func newReplica(self, replicas int) *replica {
	known := map[int]causes.Reach{}
	for i := range replicas {
		known[i] = causes.Reach{}
	}
	return &replica{self: self, known: known, things: things.New()}
}

// refusal is the error with which an operation is not done, or OK.
func (r *replica) refusal(op api.Op, window int) api.Errno {
	switch {
	case needsAnchor(op) && !r.things.Shows(op.Name, op.Anchor):
		return api.ErrNone
	case r.made() == api.MaxUpdates:
		return api.ErrOver
	case r.pending() == window:
		return api.ErrFull
	}
	return api.OK
}

func needsAnchor(op api.Op) bool {
	return op.Type == api.Sequence && (op.Kind == api.Delete || op.Anchor != api.Id{})
}

func (r *replica) made() int { return r.known[r.self][r.self] }

// pending is how many of its own updates are not known to be everywhere.
func (r *replica) pending() int { return r.made() - r.everywhere()[r.self] }

// everywhere is what all replicas are known to have.
func (r *replica) everywhere() causes.Reach {
	common := r.known[r.self]
	for _, row := range r.known {
		common = common.Within(row)
	}
	return common
}

// update makes an update.
func (r *replica) update(op api.Op) api.Id {
	clock := r.known[r.self]
	clock[r.self]++
	u := api.Update{Origin: r.self, Clock: slices.Clone(clock[:len(r.known)]), Op: op}
	r.get(u)
	return causes.Id(u)
}

// get takes an update in that the replica has not got, but all that it knew of.
func (r *replica) get(u api.Update) {
	r.known[r.self] = r.known[r.self].With(u.Clock)
	r.things.Take(u)
	r.log = append(r.log, u)
	r.applied = append(r.applied, causes.Id(u))
}

// frameTo is what the replica has to tell another one.
func (r *replica) frameTo(other int) string {
	has := r.known[other]
	var lacks []api.Update
	for _, u := range r.log {
		if !has.Has(causes.Id(u)) {
			lacks = append(lacks, u)
		}
	}
	return frame.Pack(r.known, lacks)
}

// receive takes a frame in; one that was spoiled is as good as lost. One that
// was spoiled so much that its sum fits again is not known from another: so of
// every frame only what agrees with what the replica itself has is believed.
func (r *replica) receive(bytes string) {
	f, ok := frame.Open(len(r.known), bytes)
	if !ok {
		return
	}
	for u := range f.Updates() {
		if r.canTake(u) {
			r.get(u)
		}
	}
	r.learn(f.Known)
	r.fold()
}

// canTake tells whether an update that came can be the next one of its origin.
// Nobody can bring one of the replica's own that it has not made, and nobody can
// have made one that hangs on what it did not know of.
func (r *replica) canTake(u api.Update) bool {
	return u.Origin != r.self && r.known[r.self].IsNext(u) && causes.ReachOf(u).Has(u.Op.Anchor)
}

// learn takes in what others are said to have. A frame brings all that those of
// whom it tells have: what this replica lacks even now, nobody was known to have.
func (r *replica) learn(told map[int]causes.Reach) {
	own := r.known[r.self]
	for i, row := range told {
		sure := row.Within(own)
		r.known[i] = r.known[i].With(sure[:])
	}
}

// fold forgets the updates that nobody has to be told any more: what they came
// to stays.
func (r *replica) fold() {
	common := r.everywhere()
	r.log = slices.DeleteFunc(r.log, func(u api.Update) bool { return common.Has(causes.Id(u)) })
}
