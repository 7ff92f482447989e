package mesh

import (
	"math/rand"
	"reflect"
	"slices"
	"testing"

	"braid/api"
	"braid/causes"
	"braid/crdt"
)

// walk: a mesh, beside which stands all that was made and seen there.
type walk struct {
	t        *testing.T
	r        *rand.Rand
	m        *Mesh
	replicas int
	window   int
	made     map[api.Id]api.Update
	had      [][]api.Id
}

func newWalk(t *testing.T, seed int64) *walk {
	r := rand.New(rand.NewSource(seed))
	return newWalkOf(t, r, 2+r.Intn(7), 1+r.Intn(8))
}

func newWalkOf(t *testing.T, r *rand.Rand, replicas, window int) *walk {
	return &walk{
		t: t, r: r, m: made(t, replicas, window), replicas: replicas, window: window,
		made: map[api.Id]api.Update{}, had: make([][]api.Id, replicas),
	}
}

// numbers: how many there are of each origin.
func numbers(l []api.Id, replicas int) []int {
	clock := make([]int, replicas)
	for _, id := range l {
		clock[id.Origin]++
	}
	return clock
}

func (w *walk) anyOp(replica int) api.Op {
	text := string('a' + rune(w.r.Intn(4)))
	op := []api.Op{add(text), add(text), remove(text), empty(), write(text), count(w.r.Intn(2001) - 1000), put(text, of(0, 0)), put(text, of(0, 0)), put(text, of(0, 0)), cut(of(0, 0))}[w.r.Intn(10)]
	op.Name = string('x' + rune(w.r.Intn(2)))
	if v, _ := w.m.Query(replica, op.Type, op.Name); len(v.Ids) > 0 && w.r.Intn(4) > 0 {
		op.Anchor = v.Ids[w.r.Intn(len(v.Ids))]
	}
	return op
}

// expected is the error that the document asks for.
func (w *walk) expected(replica int, op api.Op) api.Errno {
	v, _ := w.m.Query(replica, op.Type, op.Name)
	anchored := op.Type == api.Sequence && (op.Kind == api.Delete || op.Anchor != api.Id{})
	if anchored && !slices.Contains(v.Ids, op.Anchor) {
		return api.ErrNone
	}
	if p, _ := w.m.Pending(replica); p == w.window {
		return api.ErrFull
	}
	return api.OK
}

func (w *walk) update() {
	replica := w.r.Intn(w.replicas)
	op := w.anyOp(replica)
	want := w.expected(replica, op)
	id, e := w.m.Update(replica, op)
	if e != want {
		w.t.Fatalf("P5: Update(%d, %+v) = %v, %d, want %d", replica, op, id, e, want)
	}
	if e != api.OK {
		return
	}
	had := append(w.had[replica], id)
	clock := numbers(had, w.replicas)
	if id != of(replica, clock[replica]) {
		w.t.Fatalf("P5: Update(%d, %+v) = %v behind %v", replica, op, id, w.had[replica])
	}
	w.made[id] = api.Update{Origin: replica, Clock: clock, Op: op}
	if l, _ := w.m.Applied(replica); !slices.Equal(l, had) {
		w.t.Fatalf("P6: Applied(%d) = %v, want %v", replica, l, had)
	}
}

// step does something, as a network and those who write might.
func (w *walk) step() {
	k := w.r.Intn(max(w.m.Flying(), 1))
	switch n := w.r.Intn(20); {
	case n < 6:
		w.update()
	case n < 9:
		tick(w.t, w.m, w.r.Intn(w.replicas))
	case n < 16:
		w.m.Deliver(k)
	case n < 18:
		w.m.Drop(k)
	default:
		w.m.Spoil(k, w.r.Intn(5000), w.r.Intn(1000))
	}
}

// look holds what the mesh tells against what was made; the values, which take
// the longest, now and then alone.
func (w *walk) look(values bool) {
	lists := make([][]api.Id, w.replicas)
	for r := range w.replicas {
		lists[r], _ = w.m.Applied(r)
		w.lookAtOrder(r, lists[r])
		w.had[r] = lists[r]
	}
	for r := range w.replicas {
		w.lookAtNumbers(r, lists)
		w.lookAtKnown(r, lists)
		if values {
			w.lookAtValues(r, lists[r])
		}
	}
}

func (w *walk) lookAtOrder(replica int, l []api.Id) {
	w.t.Helper()
	had := w.had[replica]
	if len(l) < len(had) || !slices.Equal(l[:len(had)], had) {
		w.t.Fatalf("P6: replica %d had %v, and has %v", replica, had, l)
	}
	clock := make([]int, w.replicas)
	for _, id := range l {
		u, ok := w.made[id]
		if !ok {
			w.t.Fatalf("P6 (B): replica %d has %v, which nobody made", replica, id)
		}
		clock[id.Origin]++
		if id.Seq != clock[id.Origin] {
			w.t.Fatalf("P6 (A): replica %d has %v", replica, l)
		}
		for i, n := range u.Clock {
			if clock[i] < n {
				w.t.Fatalf("P6 (C): replica %d has %v, ahead of what %v knew of", replica, l, id)
			}
		}
	}
}

func (w *walk) lookAtNumbers(replica int, lists [][]api.Id) {
	w.t.Helper()
	everywhere := slices.Repeat([]int{api.MaxUpdates}, w.replicas)
	for _, l := range lists {
		for i, n := range numbers(l, w.replicas) {
			everywhere[i] = min(everywhere[i], n)
		}
	}
	own, all := 0, 0
	for _, id := range lists[replica] {
		if id.Seq > everywhere[id.Origin] {
			all++
			if id.Origin == replica {
				own++
			}
		}
	}
	if p, e := w.m.Pending(replica); e != api.OK || p < own || p > w.window {
		w.t.Fatalf("P8: Pending(%d) = %d, %d; %d are not everywhere", replica, p, e, own)
	}
	if n, e := w.m.Logged(replica); e != api.OK || n < all || n > len(lists[replica]) {
		w.t.Fatalf("P8: Logged(%d) = %d, %d; %d are not everywhere", replica, n, e, all)
	}
}

// lookAtKnown: nobody is taken to have what it, or the replica itself, has not.
func (w *walk) lookAtKnown(replica int, lists [][]api.Id) {
	w.t.Helper()
	known := w.m.replicas[replica].known
	for i, row := range known {
		has := causes.Reach{}.With(numbers(lists[i], w.replicas))
		if row != row.Within(has) || row != row.Within(known[replica]) || i == replica && row != has {
			w.t.Fatalf("P8: replica %d, with %v, knows of %d %v; it has %v", replica, known[replica], i, row, has)
		}
	}
}

func (w *walk) lookAtValues(replica int, l []api.Id) {
	w.t.Helper()
	var updates []api.Update
	for _, id := range l {
		updates = append(updates, w.made[id])
	}
	for kind := range uint8(4) {
		for _, name := range []string{"x", "y", "z"} {
			want, _ := crdt.Value(kind, name, updates)
			if v, e := w.m.Query(replica, kind, name); e != api.OK || !reflect.DeepEqual(v, want) {
				w.t.Fatalf("P5, P10: Query(%d, %d, %s) = %+v, %d, want %+v", replica, kind, name, v, e, want)
			}
		}
	}
}

func (w *walk) lookAtTheEnd() {
	w.t.Helper()
	for r := range w.replicas {
		l, _ := w.m.Applied(r)
		p, _ := w.m.Pending(r)
		n, _ := w.m.Logged(r)
		if len(l) != len(w.made) || p != 0 || n != 0 {
			w.t.Fatalf("P9: replica %d has %d of %d updates, %d pending, %d logged", r, len(l), len(w.made), p, n)
		}
	}
}

func TestWalks(t *testing.T) {
	for seed := range int64(60) {
		w := newWalk(t, seed)
		for range 3 {
			for n := range 150 {
				w.step()
				w.look(n%15 == 0)
			}
			rounds(t, w.m, api.MaxRounds)
			w.look(true)
			w.lookAtTheEnd()
		}
	}
}

// All that can be made, by all at once.
func TestAsManyAsThereCanBe(t *testing.T) {
	m := made(t, 8, 8)
	for n := range api.MaxUpdates {
		for r := range 8 {
			v, _ := m.Pending(r)
			if v == 8 {
				rounds(t, m, 2)
			}
			op := []api.Op{add(string('a' + rune(n%26))), count(1), write("w"), put("t", of(0, 0))}[n%4]
			update(t, m, r, op)
		}
	}
	rounds(t, m, 2)
	want, _ := m.Query(0, api.Sequence, "x")
	for r := range 8 {
		see(t, m, r, api.Counter, api.Value{N: 2000})
		see(t, m, r, api.Register, api.Value{Texts: []string{"w"}})
		see(t, m, r, api.Sequence, want)
		if l, _ := m.Applied(r); len(l) != 8000 || len(want.Ids) != 2000 {
			t.Errorf("P9: replica %d has %d, and shows %d inserts", r, len(l), len(want.Ids))
		}
		refuse(t, m, r, count(1), api.ErrOver)
	}
}
