package mesh

import (
	"math"
	"runtime"
	"strings"
	"testing"
	"time"

	"braid/api"
	"braid/causes"
	"braid/frame"
)

func TestTick(t *testing.T) {
	for replicas := 2; replicas <= 8; replicas++ {
		m := made(t, replicas, 8)
		for r := range replicas {
			before := m.Flying()
			tick(t, m, r)
			told := map[int]int{}
			for _, f := range m.flying[before:] {
				told[f.to]++
			}
			if _, self := told[r]; len(told) != replicas-1 || self {
				t.Errorf("P7: replica %d of %d tells %v", r, replicas, told)
			}
		}
	}
}

func TestNoSuchFrame(t *testing.T) {
	m := made(t, 3, 2)
	update(t, m, 0, add("a"))
	wrong := func(k int) {
		t.Helper()
		before := picture(m)
		for _, e := range []api.Errno{m.Deliver(k), m.Drop(k), m.Spoil(k, 0, 0), m.Spoil(k, -1, 0), m.Spoil(k, 0, -1)} {
			if e != api.ErrArg {
				t.Errorf("P7: frame %d of %d: %d", k, m.Flying(), e)
			}
		}
		if after := picture(m); after != before {
			t.Errorf("P1: the errors changed\n%s\nto\n%s", before, after)
		}
	}
	for _, k := range []int{0, 1, -1, math.MaxInt, math.MinInt} {
		wrong(k)
	}
	tick(t, m, 0)
	for _, k := range []int{m.Flying(), m.Flying() + 1, -1, math.MaxInt, math.MinInt} {
		wrong(k)
	}
}

func TestDeliverAgain(t *testing.T) {
	m := made(t, 2, 8)
	update(t, m, 0, add("a"))
	tick(t, m, 0)
	update(t, m, 0, remove("a"))
	tick(t, m, 0)
	for _, k := range []int{1, 0, 1, 0, 0, 1} {
		if e := m.Deliver(k); e != api.OK || m.Flying() != 2 {
			t.Errorf("P7: Deliver(%d): %d, and %d are flying", k, e, m.Flying())
		}
		applied(t, m, 1, of(0, 1), of(0, 2))
		see(t, m, 1, api.Set, api.Value{})
	}
}

// A frame comes as it was sent, however late, and to nobody else.
func TestDeliverLate(t *testing.T) {
	m := made(t, 3, 8)
	update(t, m, 0, add("a"))
	tick(t, m, 0)
	late := m.flying[1]
	if late.to != 2 {
		t.Fatalf("P7: the second frame goes to %d", late.to)
	}
	update(t, m, 0, add("b"))
	m.Deliver(1)
	applied(t, m, 1)
	applied(t, m, 2, of(0, 1))
	rounds(t, m, 3)
	update(t, m, 1, empty())
	rounds(t, m, 3)
	before := picture(m)
	m.flying = append(m.flying, late)
	m.Deliver(0)
	m.Drop(0)
	if after := picture(m); after != before {
		t.Errorf("P7: a frame from long ago changed\n%s\nto\n%s", before, after)
	}
}

func TestDrop(t *testing.T) {
	m := made(t, 2, 8)
	for _, text := range []string{"a", "b", "c"} {
		update(t, m, 0, add(text))
		tick(t, m, 0)
	}
	if e := m.Drop(1); e != api.OK || m.Flying() != 2 {
		t.Fatalf("P7: Drop(1): %d, and %d are flying", e, m.Flying())
	}
	m.Deliver(0)
	applied(t, m, 1, of(0, 1))
	if e := m.Drop(0); e != api.OK || m.Flying() != 1 {
		t.Fatalf("P7: Drop(0): %d, and %d are flying", e, m.Flying())
	}
	m.Deliver(0)
	applied(t, m, 1, of(0, 1), of(0, 2), of(0, 3))
	if e := m.Drop(0); e != api.OK || m.Flying() != 0 {
		t.Fatalf("P7: Drop(0): %d, and %d are flying", e, m.Flying())
	}
}

func TestTheFirstOnesAreLost(t *testing.T) {
	for _, c := range []struct {
		ticks  int
		flying int
		comes  bool
	}{{398, 399, true}, {399, 400, true}, {400, 400, false}, {500, 400, false}} {
		m := made(t, 2, 8)
		update(t, m, 0, add("a"))
		tick(t, m, 0)
		for range c.ticks {
			tick(t, m, 1)
		}
		if m.Flying() != c.flying {
			t.Errorf("P7: %d are flying after %d ticks", m.Flying(), 1+c.ticks)
		}
		bring(t, m)
		if l, _ := m.Applied(1); (len(l) == 1) != c.comes {
			t.Errorf("P7: after %d ticks there came %v", 1+c.ticks, l)
		}
	}
	m := made(t, 8, 8)
	for n := range 100 {
		tick(t, m, n%8)
		if want := min(7*(n+1), 400); m.Flying() != want {
			t.Errorf("P7: %d are flying after %d ticks", m.Flying(), n+1)
		}
	}
	if last := m.flying[399].to; last != 7 && last != 6 {
		t.Errorf("P7: the last frame goes to %d", last)
	}
}

func filled(t *testing.T) *Mesh {
	t.Helper()
	m := made(t, 2, 8)
	update(t, m, 1, add("b"))
	rounds(t, m, 1) // so that the frame tells of what arrived, too
	a := update(t, m, 0, put("a", of(0, 0)))
	update(t, m, 0, count(-1000))
	update(t, m, 0, cut(a))
	tick(t, m, 0)
	return m
}

func TestSpoiledIsLost(t *testing.T) {
	m := filled(t)
	before := picture(m)
	sent := m.flying[0].bytes
	for at := range len(sent) {
		for by := range 255 {
			if e := m.Spoil(0, at, by); e != api.OK {
				t.Fatalf("P7: Spoil(0, %d, %d): %d", at, by, e)
			}
			m.Deliver(0)
			m.flying[0].bytes = sent
		}
	}
	if after := picture(m); after != before {
		t.Errorf("P7: spoiled frames changed\n%s\nto\n%s", before, after)
	}
	m.Deliver(0)
	applied(t, m, 1, of(1, 1), of(0, 1), of(0, 2), of(0, 3))
}

// Spoil turns just the byte that it names, by just so much: once turned right
// round, it is as it was sent.
func TestSpoilTurns(t *testing.T) {
	size := len(filled(t).flying[0].bytes)
	for _, c := range [][4]int{
		{0, 0, 0, 254}, {0, 254, 0, 0}, {5, 99, 5, 155}, {5, 100, 5 + size, 154}, {3, 255, 3 + 7*size, 254}, {size - 1, 254 + 255, size - 1, 0},
		{math.MaxInt, math.MaxInt, math.MaxInt % size, 254 - math.MaxInt%255}, {size, 1, 0, 253},
	} {
		m := filled(t)
		m.Spoil(0, c[0], c[1])
		m.Deliver(0)
		applied(t, m, 1, of(1, 1))
		m.Spoil(0, c[2], c[3])
		m.Deliver(0)
		if l, _ := m.Applied(1); len(l) != 4 {
			t.Errorf("P7: turned at %d by %d and at %d by %d, the frame brings %v", c[0], c[1], c[2], c[3], l)
		}
	}
	m := filled(t)
	sent := m.flying[0].bytes
	m.Spoil(0, 2, 0)
	if now := m.flying[0].bytes; now[2] != sent[2]+1 || now[:2] != sent[:2] || now[3:] != sent[3:] {
		t.Errorf("P7: Spoil(0, 2, 0) made %x of %x", now, sent)
	}
}

func TestSpoilWrongly(t *testing.T) {
	m := filled(t)
	for _, c := range [][3]int{{0, 0, -1}, {0, -1, 0}, {0, -1, -1}, {0, math.MinInt, 0}, {0, 0, math.MinInt}, {1, 0, 0}, {-1, 0, 0}} {
		if e := m.Spoil(c[0], c[1], c[2]); e != api.ErrArg {
			t.Errorf("P7: Spoil(%d, %d, %d): %d", c[0], c[1], c[2], e)
		}
	}
	m.Deliver(0)
	applied(t, m, 1, of(1, 1), of(0, 1), of(0, 2), of(0, 3))
}

// A spoiled frame does not tell what the sender has, either.
func TestSpoiledTellsNothing(t *testing.T) {
	m := made(t, 2, 1)
	update(t, m, 0, add("a"))
	tick(t, m, 0)
	bring(t, m)
	tick(t, m, 1)
	m.Spoil(0, 1, 0)
	m.Deliver(0)
	refuse(t, m, 0, add("b"), api.ErrFull)
	m.Spoil(0, 1, 254)
	m.Deliver(0)
	update(t, m, 0, add("b"))
}

// An update does not come ahead of those that it knew of, by whatever ways.
func TestCauses(t *testing.T) {
	m := made(t, 3, 8)
	update(t, m, 0, add("a"))
	tick(t, m, 0)
	m.Deliver(0) // to 1 alone
	lose(m)
	applied(t, m, 1, of(0, 1))
	applied(t, m, 2)
	update(t, m, 1, remove("a"))
	tick(t, m, 1)
	bring(t, m)
	applied(t, m, 2, of(0, 1), of(1, 1)) // by way of 1
	see(t, m, 2, api.Set, api.Value{})
}

// A long row of updates, each of which knew of the one before, comes in one
// round to a replica that had none of them.
func TestLongRow(t *testing.T) {
	m := made(t, 8, 8)
	long := api.Op{Type: api.Register, Name: "eight888", Text: strings.Repeat("t", 20)}
	var want []api.Id
	for n := range 56 {
		r := 7 - n%7
		want = append(want, update(t, m, r, long))
		tick(t, m, r)
		for k := range m.Flying() {
			if m.flying[k].to != 0 {
				m.Deliver(k)
			}
		}
		lose(m)
	}
	applied(t, m, 0)
	rounds(t, m, 1)
	applied(t, m, 0, want...)
}

// What comes without one that it knew of is not taken.
func TestGap(t *testing.T) {
	m := made(t, 3, 8)
	for _, u := range []api.Update{
		{Origin: 0, Clock: []int{2, 0, 0}, Op: add("a")},
		{Origin: 1, Clock: []int{1, 1, 0}, Op: add("a")},
	} {
		m.replicas[2].receive(frame.Pack(map[int]causes.Reach{0: {}, 1: {}, 2: {}}, []api.Update{u}))
		applied(t, m, 2)
		see(t, m, 2, api.Set, api.Value{})
	}
}

// Two rounds are enough: one for the updates, one for who has them.
func TestFoldedAtOnce(t *testing.T) {
	for replicas := 2; replicas <= 8; replicas++ {
		m := made(t, replicas, 8)
		for r := range replicas {
			update(t, m, r, add("a"))
			update(t, m, r, remove("a"))
		}
		rounds(t, m, 2)
		for r := range replicas {
			p, _ := m.Pending(r)
			if n, _ := m.Logged(r); p != 0 || n != 0 {
				t.Errorf("P9: replica %d of %d: %d pending, %d logged", r, replicas, p, n)
			}
		}
	}
}

func TestWhoSendsEnds(t *testing.T) {
	before := runtime.NumGoroutine()
	m := filled(t)
	for n := range 1000 {
		m.Deliver(0)
		m.Spoil(0, n, n)
		m.Deliver(0)
		m.Spoil(0, n, 254-n%255)
	}
	for range 100 {
		if runtime.NumGoroutine() <= before {
			return
		}
		time.Sleep(time.Millisecond)
	}
	t.Errorf("Ways: %d are running, before that %d", runtime.NumGoroutine(), before)
}
