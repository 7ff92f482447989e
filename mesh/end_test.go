package mesh

import (
	"math/rand"
	"slices"
	"testing"

	"braid/api"
)

// bringTo delivers, of the frames that fly, those to one replica, and drops all.
func bringTo(m *Mesh, replica int) {
	for k := range m.Flying() {
		if m.flying[k].to == replica {
			m.Deliver(k)
		}
	}
	lose(m)
}

func TestPendingAndLogged(t *testing.T) {
	m := made(t, 3, 4)
	expect := func(what string, want ...[2]int) {
		t.Helper()
		for r := range 3 {
			p, e := m.Pending(r)
			n, f := m.Logged(r)
			if e != api.OK || f != api.OK || [2]int{p, n} != want[r] {
				t.Errorf("P8: %s: replica %d: %d pending, %d logged, want %v; %d, %d", what, r, p, n, want[r], e, f)
			}
		}
	}
	expect("at the beginning", [2]int{}, [2]int{}, [2]int{})
	update(t, m, 0, add("a"))
	update(t, m, 0, add("b"))
	expect("made", [2]int{2, 2}, [2]int{}, [2]int{})
	tick(t, m, 0)
	bringTo(m, 1)
	expect("at 1, too", [2]int{2, 2}, [2]int{0, 2}, [2]int{})
	tick(t, m, 1)
	bringTo(m, 0)
	expect("0 knows that", [2]int{2, 2}, [2]int{0, 2}, [2]int{})
	tick(t, m, 1)
	bringTo(m, 2)
	expect("everywhere, as 2 alone knows", [2]int{2, 2}, [2]int{0, 2}, [2]int{})
	update(t, m, 0, remove("a"))
	expect("one more", [2]int{3, 3}, [2]int{0, 2}, [2]int{})
	tick(t, m, 2)
	bringTo(m, 0)
	expect("0 knows, too", [2]int{1, 1}, [2]int{0, 2}, [2]int{})
	tick(t, m, 0)
	bringTo(m, 1)
	expect("1 knows, and gets one more", [2]int{1, 1}, [2]int{0, 1}, [2]int{})
	rounds(t, m, 2)
	expect("in the end", [2]int{}, [2]int{}, [2]int{})
	see(t, m, 2, api.Set, api.Value{Texts: []string{"b"}})
}

// What is folded away is not sent any more, and still shows; a frame from then
// brings nothing back.
func TestFoldedAway(t *testing.T) {
	m := made(t, 3, 8)
	none := func() int {
		tick(t, m, 0)
		defer lose(m)
		return len(m.flying[0].bytes)
	}()
	a := update(t, m, 0, put("a", of(0, 0)))
	update(t, m, 0, add("a"))
	update(t, m, 0, write("w"))
	tick(t, m, 0)
	old := slices.Clone(m.flying)
	rounds(t, m, 2)
	update(t, m, 1, remove("a"))
	update(t, m, 2, cut(a))
	rounds(t, m, 2)
	before := picture(m)
	tick(t, m, 0)
	if n := len(m.flying[0].bytes); n != none {
		t.Errorf("P8: a frame has %d bytes, with nothing to tell %d", n, none)
	}
	lose(m)
	m.flying = old
	for range 2 {
		for k := range m.Flying() {
			m.Deliver(k)
		}
	}
	lose(m)
	if after := picture(m); after != before {
		t.Errorf("P7, P10: old frames changed\n%s\nto\n%s", before, after)
	}
	for r := range 3 {
		see(t, m, r, api.Register, api.Value{Texts: []string{"w"}})
		see(t, m, r, api.Set, api.Value{})
		see(t, m, r, api.Sequence, api.Value{})
	}
}

// orders has all orders of the numbers below n.
func orders(n int) [][]int {
	if n == 0 {
		return [][]int{nil}
	}
	var all [][]int
	for _, l := range orders(n - 1) {
		for at := range n {
			all = append(all, slices.Insert(slices.Clone(l), at, n-1))
		}
	}
	return all
}

// told: replicas 0 and 1 write, and know of one another; to replica 2, which has
// nothing, some frames are flying.
func told(t *testing.T) *walk {
	w := newWalkOf(t, nil, 3, 8)
	var toLast []flight
	for n := range 6 {
		for _, op := range []api.Op{put(string('a'+rune(n)), of(0, 0)), []api.Op{add("a"), remove("a"), write("w"), empty()}[n%4]} {
			r := n % 2
			if v, _ := w.m.Query(r, api.Sequence, "x"); op.Type == api.Sequence && len(v.Ids) > 0 {
				op.Anchor = v.Ids[n%len(v.Ids)]
			}
			id := update(t, w.m, r, op)
			l, _ := w.m.Applied(r)
			w.made[id] = api.Update{Origin: r, Clock: numbers(l, 3), Op: op}
		}
		tick(t, w.m, n%2)
		for _, f := range w.m.flying {
			if f.to == 2 {
				toLast = append(toLast, f)
			} else if n%3 != 0 { // some are lost
				w.m.replicas[f.to].receive(f.bytes)
			}
		}
		lose(w.m)
	}
	w.m.flying = toLast
	return w
}

// Frames that come in any order, some twice, some spoiled on their way.
func TestAnyOrder(t *testing.T) {
	for n, order := range orders(6) {
		w := told(t)
		if w.m.Flying() != 6 {
			t.Fatalf("%d frames", w.m.Flying())
		}
		w.m.Spoil(order[0], n, n)
		for _, k := range order {
			w.m.Deliver(k)
			w.look(false)
		}
		w.m.Spoil(order[0], n, 254-n%255)
		for _, k := range order {
			w.m.Deliver(k)
		}
		w.look(true)
		if l, _ := w.m.Applied(2); len(l) != len(w.made) {
			t.Fatalf("P7: in the order %v %d of %d came", order, len(l), len(w.made))
		}
	}
}

// In the end all is everywhere, whatever flies when it begins: as many frames as
// can be, some of them spoiled.
func TestInTheEnd(t *testing.T) {
	for seed := range int64(28) {
		w := newWalkOf(t, rand.New(rand.NewSource(seed)), 2+int(seed)%7, []int{1, 8}[seed/7%2])
		for range 150 {
			w.step()
			w.look(false)
		}
		for w.m.Flying() < api.MaxFlying {
			w.update()
			w.look(false)
			tick(t, w.m, w.r.Intn(w.replicas))
			w.m.Spoil(w.r.Intn(w.m.Flying()), w.r.Intn(5000), w.r.Intn(255))
		}
		for range api.MaxRounds {
			for r := range w.replicas {
				tick(t, w.m, r)
			}
			if seed < 14 {
				bring(t, w.m)
				continue
			}
			for k := range w.m.Flying() {
				w.m.Deliver(k)
			}
			lose(w.m)
		}
		w.look(true)
		w.lookAtTheEnd()
	}
}

// With nothing made, and with but one update of one replica.
func TestInTheEndOfLittle(t *testing.T) {
	for replicas := 2; replicas <= 8; replicas++ {
		for origin := -1; origin < replicas; origin++ {
			m := made(t, replicas, 1)
			want := 0
			if origin >= 0 {
				update(t, m, origin, count(5))
				want = 1
			}
			rounds(t, m, api.MaxRounds)
			for r := range replicas {
				l, _ := m.Applied(r)
				p, _ := m.Pending(r)
				if n, _ := m.Logged(r); len(l) != want || p != 0 || n != 0 {
					t.Errorf("P9: replica %d of %d has %v, %d pending, %d logged", r, replicas, l, p, n)
				}
			}
		}
	}
}

// What a mesh answers does not hang on the order of maps, or on how goroutines run.
func TestSameAgain(t *testing.T) {
	play := func() string {
		r := rand.New(rand.NewSource(12))
		m := made(t, 8, 3)
		s := ""
		for range 300 {
			k := r.Intn(max(m.Flying(), 1))
			switch r.Intn(4) {
			case 0:
				m.Update(r.Intn(8), []api.Op{add("a"), add("b"), remove("b"), write("c"), write("d"), put("e", of(0, 0))}[r.Intn(6)])
			case 1:
				m.Tick(r.Intn(8))
				s += m.flying[len(m.flying)-1].bytes
			default:
				m.Deliver(k)
			}
		}
		return s + picture(m)
	}
	want := play()
	for range 5 {
		if got := play(); got != want {
			t.Fatalf("the same calls, other answers:\n%q\nand\n%q", got, want)
		}
	}
}
