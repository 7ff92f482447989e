package mesh

import (
	"math/rand"
	"strings"
	"testing"

	"braid/api"
	"braid/causes"
	"braid/crc"
	"braid/frame"
	"braid/wire"
)

// Forged: of a frame so many bytes were turned that its sum fits again.

// turnInto spoils a frame byte by byte, until it is what is wanted.
func turnInto(t *testing.T, m *Mesh, k int, want string) {
	t.Helper()
	sent := m.flying[k].bytes
	for at := range len(sent) {
		if by := want[at] - sent[at]; by != 0 {
			m.Spoil(k, at, int(by)-1)
		}
	}
	if m.flying[k].bytes != want {
		t.Fatalf("P7: turned by Spoil, %x is %x, want %x", sent, m.flying[k].bytes, want)
	}
}

// sentOfLength is a mesh of two, in which a frame of this length flies to replica 1.
func sentOfLength(t *testing.T, length int) *Mesh {
	t.Helper()
	for n := range api.MaxText + 1 {
		m := made(t, 2, 2)
		update(t, m, 0, add(strings.Repeat("t", n)))
		tick(t, m, 0)
		if len(m.flying[0].bytes) == length {
			return m
		}
	}
	t.Fatalf("no frame has %d bytes", length)
	return nil
}

// useAll calls all that a mesh has.
func useAll(m *Mesh) {
	for r := range m.replicas {
		v, _ := m.Query(r, api.Sequence, "x")
		for _, op := range []api.Op{add("a"), remove("a"), empty(), write("b"), count(1), put("c", of(0, 0))} {
			m.Update(r, op)
		}
		for _, id := range v.Ids {
			m.Update(r, put("d", id))
			m.Update(r, cut(id))
		}
		m.Tick(r)
		for k := range m.Flying() {
			m.Deliver(k)
		}
	}
	for m.Flying() > 0 {
		m.Deliver(0)
		m.Drop(0)
	}
	picture(m)
}

// lookAtBounds looks at what holds whatever frames came.
func lookAtBounds(t *testing.T, m *Mesh, window int, own []int) {
	t.Helper()
	for r := range m.replicas {
		l, _ := m.Applied(r)
		clock := make([]int, len(m.replicas))
		for _, id := range l {
			if id.Origin < 0 || id.Origin >= len(m.replicas) {
				t.Fatalf("P6: replica %d has %v; there are %d replicas", r, id, len(m.replicas))
			}
			clock[id.Origin]++
			if id.Seq != clock[id.Origin] || id.Seq > api.MaxUpdates {
				t.Fatalf("P6 (A): replica %d has %v", r, l)
			}
		}
		if clock[r] != own[r] {
			t.Fatalf("P6 (B): replica %d has made %d, and has %d of its own", r, own[r], clock[r])
		}
		p, _ := m.Pending(r)
		if n, _ := m.Logged(r); p < 0 || p > min(window, own[r]) || n < p || n > len(l) {
			t.Fatalf("P8: replica %d: %d pending of %d, %d logged of %d", r, p, window, n, len(l))
		}
	}
}

func TestForgedUpdates(t *testing.T) {
	one := func(origin int, op api.Op, clock ...int) api.Update {
		return api.Update{Origin: origin, Clock: clock, Op: op}
	}
	for _, c := range []struct {
		what string
		u    api.Update
		come int
	}{
		{"another text", one(0, add("another"), 1, 0), 1},
		{"a clock of three", one(0, add("a"), 1, 0, 0), 0},
		{"an origin that is not there", one(2, add("a"), 0, 0, 1), 0},
		{"a clock of eight", one(7, write("a"), 0, 0, 0, 0, 0, 0, 0, 1), 0},
		{"one of the receiver's own", one(1, add("a"), 0, 1), 0},
		{"one that knew of one of the receiver's own", one(0, add("a"), 1, 1), 0},
		{"one too far on", one(0, add("a"), 2, 0), 0},
		{"the last that there can be", one(0, add("a"), 1000, 0), 0},
		{"one behind what it did not know of", one(0, put("a", of(1, 1)), 1, 0), 0},
		{"one behind what it did not know of, of nobody", one(0, put("a", of(7, 1000)), 1, 0), 0},
		{"one behind itself", one(0, put("a", of(0, 1)), 1, 0), 1},
		{"one behind a later one", one(0, put("a", of(0, 2)), 1, 0), 0},
		{"a delete of what it did not know of", one(0, cut(of(1, 1)), 1, 0), 0},
		{"a delete of itself", one(0, cut(of(0, 1)), 1, 0), 1},
		{"a delete of nothing", one(0, cut(of(0, 0)), 1, 0), 1},
	} {
		bytes := frame.Pack(map[int]causes.Reach{0: {1}, 1: {}}, []api.Update{c.u})
		m := sentOfLength(t, len(bytes))
		turnInto(t, m, 0, bytes)
		if e := m.Deliver(0); e != api.OK {
			t.Errorf("P7: %s: Deliver: %d", c.what, e)
		}
		if l, _ := m.Applied(1); len(l) != c.come {
			t.Errorf("P1: %s: there came %v", c.what, l)
		}
		lookAtBounds(t, m, 2, []int{1, 0})
		useAll(m)
	}
}

// Whatever a frame tells of who has what: nobody is taken to have what the
// receiver has not.
func TestForgedRows(t *testing.T) {
	for _, rows := range []map[int]causes.Reach{
		{0: {65535, 65535}, 1: {65535, 65535}},
		{0: {1, 0}, 1: {1, 1}},
		{0: {1, 1000}, 1: {0, 1000}},
		{0: {1001, 3}, 1: {1001, 1001}},
		{0: {0, 3}, 1: {2, 3}},
	} {
		m := made(t, 2, 2)
		tick(t, m, 0)
		update(t, m, 1, add("b"))
		turnInto(t, m, 0, frame.Pack(rows, nil))
		m.Deliver(0)
		lookAtBounds(t, m, 2, []int{0, 1})
		for n := range 2 {
			for row := range 2 {
				if known := m.replicas[1].known[row]; known != known.Within(causes.Reach{0, n + 1}) {
					t.Errorf("P8: of replica %d replica 1 knows %v, and has %d", row, known, n+1)
				}
			}
			m.Update(1, add("c"))
		}
		useAll(m)
	}
}

// A frame whose sum fits, but that has nothing in it, or noise.
func TestForgedNoise(t *testing.T) {
	r := rand.New(rand.NewSource(16))
	for range 2000 {
		m := sentOfLength(t, 40)
		b := []byte(m.flying[0].bytes)
		b = b[:len(b)-4]
		for range 1 + r.Intn(40) {
			b[r.Intn(len(b))] = byte(r.Intn(256))
		}
		turnInto(t, m, 0, string(crc.Seal(b)))
		m.Deliver(0)
		lookAtBounds(t, m, 2, []int{1, 0})
		useAll(m)
	}
}

// anyRows: what each replica has, as nobody would tell it.
func anyRows(r *rand.Rand, replicas int) map[int]causes.Reach {
	rows := map[int]causes.Reach{}
	for i := range replicas {
		var row causes.Reach
		for k := range replicas {
			row[k] = []int{r.Intn(10), r.Intn(10), r.Intn(10), r.Intn(65536)}[r.Intn(4)]
		}
		rows[i] = row
	}
	return rows
}

// anyUpdates are such as can be written down, and little more.
func anyUpdates(r *rand.Rand, replicas int) []api.Update {
	var l []api.Update
	for range r.Intn(6) {
		clock := make([]int, replicas)
		if r.Intn(10) == 0 {
			clock = make([]int, 2+r.Intn(7))
		}
		for k := range clock {
			clock[k] = r.Intn(6)
		}
		id := of(r.Intn(8), 1+r.Intn(6))
		ops := []api.Op{add("a"), remove("a"), empty(), write("b"), count(7), put("c", of(0, 0)), put("c", id), cut(id)}
		u := api.Update{Origin: r.Intn(len(clock)), Clock: clock, Op: ops[r.Intn(len(ops))]}
		if _, e := wire.Encode(u); e == api.OK {
			l = append(l, u)
		}
	}
	return l
}

// forge makes another frame of one that flies: other updates, other rows, or both.
func forge(r *rand.Rand, m *Mesh, k int) {
	f, ok := frame.Open(len(m.replicas), m.flying[k].bytes)
	if !ok {
		return
	}
	rows := f.Known
	var l []api.Update
	for u := range f.Updates() {
		l = append(l, u)
	}
	if r.Intn(2) == 0 {
		rows = anyRows(r, len(m.replicas))
	}
	if r.Intn(2) == 0 {
		l = append(l, anyUpdates(r, len(m.replicas))...)
		r.Shuffle(len(l), func(i, j int) { l[i], l[j] = l[j], l[i] })
	}
	m.flying[k].bytes = frame.Pack(rows, l)
}

func TestForgedWalks(t *testing.T) {
	for seed := range int64(150) {
		r := rand.New(rand.NewSource(seed))
		replicas, window := 2+r.Intn(7), 1+r.Intn(8)
		m := made(t, replicas, window)
		own := make([]int, replicas)
		for range 300 {
			i, k := r.Intn(replicas), r.Intn(max(m.Flying(), 1))
			switch n := r.Intn(10); {
			case n < 3:
				v, _ := m.Query(i, api.Sequence, "x")
				ops := []api.Op{add("a"), remove("a"), empty(), write("b"), count(1), put("c", of(0, 0))}
				if len(v.Ids) > 0 {
					ops = append(ops, put("d", v.Ids[r.Intn(len(v.Ids))]), cut(v.Ids[r.Intn(len(v.Ids))]))
				}
				if id, e := m.Update(i, ops[r.Intn(len(ops))]); e == api.OK {
					own[i]++
					if id != of(i, own[i]) {
						t.Fatalf("P5: seed %d: the update %d of %d has the id %v", seed, own[i], i, id)
					}
				}
			case n < 5:
				tick(t, m, i)
			case n < 7 && m.Flying() > 0:
				forge(r, m, k)
				m.Deliver(k)
			case n < 9:
				m.Deliver(k)
			default:
				m.Drop(k)
			}
			lookAtBounds(t, m, window, own)
		}
		picture(m)
		rounds(t, m, 3)
		lookAtBounds(t, m, window, own)
	}
}

// A forged frame is taken for another that was sent; once the replicas have gone
// on, they get on with one another again.
func TestForgedAheadOfTime(t *testing.T) {
	m := made(t, 2, 8)
	update(t, m, 0, add("a"))
	tick(t, m, 0)
	ahead := []api.Update{{Origin: 0, Clock: []int{1, 0}, Op: add("a")}, {Origin: 0, Clock: []int{2, 0}, Op: add("b")}}
	m.flying[0].bytes = frame.Pack(map[int]causes.Reach{0: {2}, 1: {}}, ahead)
	bring(t, m)
	update(t, m, 1, count(1)) // it knew of what is not made yet
	rounds(t, m, 2)
	applied(t, m, 0, of(0, 1))
	update(t, m, 0, add("b"))
	rounds(t, m, api.MaxRounds)
	applied(t, m, 0, of(0, 1), of(0, 2), of(1, 1))
	applied(t, m, 1, of(0, 1), of(0, 2), of(1, 1))
	for r := range 2 {
		see(t, m, r, api.Counter, api.Value{N: 1})
		p, _ := m.Pending(r)
		if n, _ := m.Logged(r); p != 0 || n != 0 {
			t.Errorf("P9: replica %d: %d pending, %d logged", r, p, n)
		}
	}
}

// Any bytes at all, with the sum that fits them.
func FuzzFrames(f *testing.F) {
	rows := map[int]causes.Reach{0: {2}, 1: {0, 1}, 2: {}}
	l := []api.Update{{Origin: 0, Clock: []int{1, 0, 0}, Op: put("a", of(0, 0))}, {Origin: 0, Clock: []int{2, 0, 0}, Op: put("b", of(0, 1))}}
	bytes := frame.Pack(rows, l)
	f.Add(bytes[:len(bytes)-4], "")
	f.Add("", bytes[:len(bytes)-4])
	f.Add(bytes[:18], bytes[:30])
	f.Fuzz(func(t *testing.T, first, second string) {
		m := made(t, 3, 2)
		update(t, m, 0, add("a"))
		for to, inner := range []string{first, second, first, second} {
			m.replicas[to%3].receive(string(crc.Seal([]byte(inner))))
			lookAtBounds(t, m, 2, []int{1, 0, 0})
		}
		useAll(m)
	})
}
