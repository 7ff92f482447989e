package mesh

import (
	"fmt"
	"math"
	"reflect"
	"slices"
	"strings"
	"testing"
	"unsafe"

	"braid/api"
)

func add(text string) api.Op { return api.Op{Type: api.Set, Kind: api.Add, Name: "x", Text: text} }
func remove(text string) api.Op {
	return api.Op{Type: api.Set, Kind: api.Remove, Name: "x", Text: text}
}
func empty() api.Op            { return api.Op{Type: api.Set, Kind: api.Clear, Name: "x"} }
func write(text string) api.Op { return api.Op{Type: api.Register, Name: "x", Text: text} }
func count(n int) api.Op       { return api.Op{Type: api.Counter, Name: "x", Amount: n} }

func put(text string, behind api.Id) api.Op {
	return api.Op{Type: api.Sequence, Name: "x", Text: text, Anchor: behind}
}

func cut(id api.Id) api.Op {
	return api.Op{Type: api.Sequence, Kind: api.Delete, Name: "x", Anchor: id}
}

func of(origin, seq int) api.Id { return api.Id{Origin: origin, Seq: seq} }

func made(t *testing.T, replicas, window int) *Mesh {
	t.Helper()
	m, e := New(replicas, window)
	if m == nil || e != api.OK {
		t.Fatalf("P5: New(%d, %d): %v, %d", replicas, window, m, e)
	}
	return m
}

func update(t *testing.T, m *Mesh, replica int, op api.Op) api.Id {
	t.Helper()
	id, e := m.Update(replica, op)
	if e != api.OK {
		t.Fatalf("P5: Update(%d, %+v) = %v, %d", replica, op, id, e)
	}
	return id
}

func refuse(t *testing.T, m *Mesh, replica int, op api.Op, want api.Errno) {
	t.Helper()
	before := picture(m)
	if id, e := m.Update(replica, op); e != want || id != (api.Id{}) {
		t.Errorf("P5: Update(%d, %+v) = %v, %d, want %d", replica, op, id, e, want)
	}
	if after := picture(m); after != before {
		t.Errorf("P1: the error %d changed\n%s\nto\n%s", want, before, after)
	}
}

func tick(t *testing.T, m *Mesh, replica int) {
	t.Helper()
	if e := m.Tick(replica); e != api.OK {
		t.Fatalf("P7: Tick(%d): %d", replica, e)
	}
}

// bring delivers all that flies, from the first one on, and drops it.
func bring(t *testing.T, m *Mesh) {
	t.Helper()
	for m.Flying() > 0 {
		if e, f := m.Deliver(0), m.Drop(0); e != api.OK || f != api.OK {
			t.Fatalf("P7: Deliver, Drop: %d, %d", e, f)
		}
	}
}

func lose(m *Mesh) {
	for m.Flying() > 0 {
		m.Drop(0)
	}
}

func rounds(t *testing.T, m *Mesh, times int) {
	t.Helper()
	for range times {
		for r := range m.replicas {
			tick(t, m, r)
		}
		bring(t, m)
	}
}

// picture: all that the calls tell of a mesh.
func picture(m *Mesh) string {
	var b strings.Builder
	for r := range m.replicas {
		l, _ := m.Applied(r)
		p, _ := m.Pending(r)
		n, _ := m.Logged(r)
		fmt.Fprintln(&b, r, l, p, n)
		for kind := range uint8(4) {
			for _, name := range []string{"x", "y"} {
				v, _ := m.Query(r, kind, name)
				fmt.Fprintf(&b, "\t%d %s %+v\n", kind, name, v)
			}
		}
	}
	fmt.Fprintln(&b, m.Flying())
	return b.String()
}

func see(t *testing.T, m *Mesh, replica int, kind uint8, want api.Value) {
	t.Helper()
	if v, e := m.Query(replica, kind, "x"); e != api.OK || !reflect.DeepEqual(v, want) {
		t.Errorf("P5: replica %d shows of type %d: %+v, %d, want %+v", replica, kind, v, e, want)
	}
}

func applied(t *testing.T, m *Mesh, replica int, want ...api.Id) {
	t.Helper()
	if l, e := m.Applied(replica); e != api.OK || !slices.Equal(l, want) {
		t.Errorf("P6: Applied(%d) = %v, %d, want %v", replica, l, e, want)
	}
}

func TestNew(t *testing.T) {
	for _, c := range []struct {
		replicas, window int
		want             api.Errno
	}{
		{2, 1, api.OK}, {8, 8, api.OK}, {2, 8, api.OK}, {8, 1, api.OK}, {5, 3, api.OK},
		{1, 1, api.ErrArg}, {9, 1, api.ErrArg}, {2, 0, api.ErrArg}, {2, 9, api.ErrArg}, {0, 0, api.ErrArg}, {-1, 3, api.ErrArg}, {3, -1, api.ErrArg},
		{math.MaxInt, 1, api.ErrArg}, {math.MinInt, 1, api.ErrArg}, {2, math.MaxInt, api.ErrArg}, {2, math.MinInt, api.ErrArg},
	} {
		m, e := New(c.replicas, c.window)
		if e != c.want || (m != nil) != (e == api.OK) {
			t.Errorf("P5: New(%d, %d) = %v, %d, want %d", c.replicas, c.window, m, e, c.want)
		}
		if m == nil {
			continue
		}
		for r := range 10 {
			_, e := m.Applied(r)
			if (e == api.OK) != (r < c.replicas) {
				t.Errorf("P5: New(%d, %d): replica %d: %d", c.replicas, c.window, r, e)
			}
		}
		rounds(t, m, 1)
		for r := range c.replicas {
			applied(t, m, r)
			for kind := range uint8(4) {
				see(t, m, r, kind, api.Value{})
			}
		}
	}
}

func TestNoSuchReplica(t *testing.T) {
	m := made(t, 3, 2)
	update(t, m, 0, add("a"))
	before := picture(m)
	for _, r := range []int{-1, 3, 8, math.MaxInt, math.MinInt} {
		refuse(t, m, r, add("a"), api.ErrArg)
		refuse(t, m, r, api.Op{}, api.ErrArg)
		v, a := m.Query(r, api.Set, "x")
		l, b := m.Applied(r)
		p, c := m.Pending(r)
		n, d := m.Logged(r)
		if !reflect.DeepEqual(v, api.Value{}) || l != nil || p != 0 || n != 0 {
			t.Errorf("P1: replica %d: %+v, %v, %d, %d", r, v, l, p, n)
		}
		for _, e := range []api.Errno{a, b, c, d, m.Tick(r)} {
			if e != api.ErrArg {
				t.Errorf("P5 to P8: replica %d: %d", r, e)
			}
		}
	}
	if after := picture(m); after != before {
		t.Errorf("P1: the errors changed\n%s\nto\n%s", before, after)
	}
}

func TestNoSuchThing(t *testing.T) {
	m := made(t, 2, 2)
	update(t, m, 0, add("a"))
	for _, c := range []struct {
		kind uint8
		name string
	}{{4, "x"}, {255, "x"}, {0, ""}, {3, "ninebytes"}, {1, strings.Repeat("x", 1000000)}, {4, ""}} {
		if v, e := m.Query(0, c.kind, c.name); e != api.ErrArg || !reflect.DeepEqual(v, api.Value{}) {
			t.Errorf("P5: Query(0, %d, %.20q) = %+v, %d", c.kind, c.name, v, e)
		}
	}
	for _, name := range []string{"y", "\x00", "eight888", "\xff"} {
		if v, e := m.Query(0, api.Set, name); e != api.OK || !reflect.DeepEqual(v, api.Value{}) {
			t.Errorf("P5: Query(0, 0, %q) = %+v, %d", name, v, e)
		}
	}
}

func TestNoOperation(t *testing.T) {
	m := made(t, 2, 1)
	update(t, m, 0, add("a"))
	for _, r := range []int{0, 1} { // the one is full, the other is not
		for _, op := range []api.Op{
			{}, {Type: 4, Name: "x"}, {Type: 255, Name: "x"}, {Kind: 3, Name: "x"}, {Type: api.Register, Kind: 1, Name: "x"},
			{Type: api.Counter, Kind: 1, Name: "x"}, {Type: api.Sequence, Kind: 2, Name: "x"}, {Name: "ninebytes"},
			{Name: "x", Text: strings.Repeat("t", 21)}, {Name: "x", Amount: 1}, {Name: "x", Anchor: of(0, 1)},
			{Name: "x", Kind: api.Clear, Text: "a"}, count(1001), count(-1001), put("a", of(8, 1)), put("a", of(-1, 1)),
			put("a", of(0, 1001)), put("a", of(1, 0)), put("a", of(0, -1)), cut(of(8, 1)), cut(of(0, 1001)),
			{Type: api.Sequence, Kind: api.Delete, Name: "x", Text: "a", Anchor: of(0, 1)},
		} {
			refuse(t, m, r, op, api.ErrOp)
		}
	}
}

func TestNoAnchor(t *testing.T) {
	m := made(t, 2, 8)
	a := update(t, m, 0, put("a", of(0, 0)))
	b := update(t, m, 0, put("b", a))
	other := put("c", of(0, 0))
	other.Name = "y"
	c := update(t, m, 0, other)
	d := update(t, m, 0, add("d"))
	e := update(t, m, 0, cut(a))
	for _, id := range []api.Id{a, c, d, e, of(0, 6), of(1, 1), of(7, 1000)} {
		refuse(t, m, 0, put("z", id), api.ErrNone)
		refuse(t, m, 0, cut(id), api.ErrNone)
	}
	refuse(t, m, 0, cut(of(0, 0)), api.ErrNone)
	refuse(t, m, 1, cut(of(0, 0)), api.ErrNone)
	refuse(t, m, 1, put("z", b), api.ErrNone) // it has not come there
	refuse(t, m, 1, cut(b), api.ErrNone)
	rounds(t, m, 2)
	refuse(t, m, 1, put("z", a), api.ErrNone)
	refuse(t, m, 1, cut(a), api.ErrNone)
	update(t, m, 1, put("z", b))
	update(t, m, 1, cut(b))
	refuse(t, m, 1, cut(b), api.ErrNone)
	see(t, m, 1, api.Sequence, api.Value{Texts: []string{"z"}, Ids: []api.Id{of(1, 1)}})
	update(t, m, 0, cut(b)) // there it still shows
	rounds(t, m, 2)
	see(t, m, 0, api.Sequence, api.Value{Texts: []string{"z"}, Ids: []api.Id{of(1, 1)}})
}

func TestFull(t *testing.T) {
	for window := 1; window <= 8; window++ {
		m := made(t, 3, window)
		for n := range window {
			if id := update(t, m, 1, count(1)); id != of(1, n+1) {
				t.Errorf("P5: the update %d has the id %v", n+1, id)
			}
		}
		refuse(t, m, 1, count(1), api.ErrFull)
		refuse(t, m, 1, cut(of(1, 1)), api.ErrNone)
		refuse(t, m, 1, api.Op{}, api.ErrOp)
		update(t, m, 0, count(1)) // the window is each one's own
		rounds(t, m, 1)
		lose(m)
		rounds(t, m, 1)
		for n := range window {
			if id := update(t, m, 1, count(1)); id != of(1, window+n+1) {
				t.Errorf("P5: the update %d has the id %v", window+n+1, id)
			}
		}
		refuse(t, m, 1, count(1), api.ErrFull)
		see(t, m, 1, api.Counter, api.Value{N: 2*window + 1})
	}
}

// One replica that gets nothing holds those up that write, but not for good.
func TestFullAsLongAsOneLacksIt(t *testing.T) {
	m := made(t, 3, 1)
	update(t, m, 0, add("a"))
	for range 5 {
		for r := range 3 {
			tick(t, m, r)
		}
		for k := 0; k < m.Flying(); k++ {
			if m.flying[k].to != 2 {
				m.Deliver(k)
			}
		}
		lose(m)
		refuse(t, m, 0, add("b"), api.ErrFull)
	}
	applied(t, m, 1, of(0, 1))
	applied(t, m, 2)
	rounds(t, m, 2)
	update(t, m, 0, add("b"))
}

func TestOver(t *testing.T) {
	m := made(t, 2, 8)
	front := update(t, m, 0, put("a", of(0, 0)))
	for n := 2; n <= 1000; n++ {
		if p, _ := m.Pending(0); p == 8 {
			rounds(t, m, 2)
		}
		if id := update(t, m, 0, count(1000)); id != of(0, n) {
			t.Fatalf("P5: the update %d has the id %v", n, id)
		}
	}
	if p, _ := m.Pending(0); p != 8 {
		t.Fatalf("P8: %d are pending", p) // so that both errors apply
	}
	refuse(t, m, 0, count(1), api.ErrOver)
	refuse(t, m, 0, put("b", of(0, 0)), api.ErrOver)
	refuse(t, m, 0, put("b", front), api.ErrOver)
	refuse(t, m, 0, put("b", of(0, 2)), api.ErrNone)
	refuse(t, m, 0, api.Op{}, api.ErrOp)
	rounds(t, m, 2)
	refuse(t, m, 0, count(1), api.ErrOver)
	update(t, m, 1, count(1))
	rounds(t, m, 2)
	for r := range 2 {
		see(t, m, r, api.Counter, api.Value{N: 999001})
		if l, _ := m.Applied(r); len(l) != 1001 {
			t.Errorf("P6: replica %d has %d", r, len(l))
		}
	}
}

func TestExamples(t *testing.T) {
	m := made(t, 2, 8)
	update(t, m, 0, add("a"))
	update(t, m, 1, add("a"))
	update(t, m, 0, remove("a"))
	see(t, m, 0, api.Set, api.Value{})
	update(t, m, 0, write("x"))
	update(t, m, 1, write("y"))
	a := update(t, m, 0, put("a", of(0, 0)))
	b := update(t, m, 0, put("b", a))
	rounds(t, m, 1)
	c := update(t, m, 1, put("c", a))
	for r := range 2 {
		see(t, m, r, api.Set, api.Value{Texts: []string{"a"}})
		see(t, m, r, api.Register, api.Value{Texts: []string{"x", "y"}})
	}
	update(t, m, 1, write("z"))
	rounds(t, m, 1)
	for r := range 2 {
		see(t, m, r, api.Register, api.Value{Texts: []string{"z"}})
		see(t, m, r, api.Sequence, api.Value{Texts: []string{"a", "c", "b"}, Ids: []api.Id{a, c, b}})
	}
	update(t, m, 0, cut(a))
	update(t, m, 1, empty())
	rounds(t, m, 1)
	for r := range 2 {
		see(t, m, r, api.Sequence, api.Value{Texts: []string{"c", "b"}, Ids: []api.Id{c, b}})
		see(t, m, r, api.Set, api.Value{})
	}
}

func TestMeshesAreApart(t *testing.T) {
	m, other := made(t, 2, 2), made(t, 2, 2)
	before := picture(other)
	update(t, m, 0, add("a"))
	rounds(t, m, 2)
	tick(t, m, 0)
	if after := picture(other); after != before {
		t.Errorf("P2: another mesh was changed from\n%s\nto\n%s", before, after)
	}
	tick(t, other, 0)
	bring(t, other)
	applied(t, other, 1)
}

func TestWhatIsHandedInIsNotKept(t *testing.T) {
	name, text := []byte("x"), []byte("abc")
	op := api.Op{Type: api.Register, Name: unsafe.String(&name[0], 1), Text: unsafe.String(&text[0], 3)}
	m := made(t, 2, 2)
	update(t, m, 0, op)
	name[0], text[0] = 'z', 'z'
	rounds(t, m, 2)
	for r := range 2 {
		see(t, m, r, api.Register, api.Value{Texts: []string{"abc"}})
	}
}

func TestFreshMemory(t *testing.T) {
	m := made(t, 2, 4)
	update(t, m, 0, add("a"))
	update(t, m, 0, write("a"))
	update(t, m, 0, put("a", of(0, 0)))
	before := picture(m)
	l, _ := m.Applied(0)
	l = append(l[:2], of(7, 7))
	clear(l)
	for kind := range uint8(4) {
		v, _ := m.Query(0, kind, "x")
		clear(v.Texts)
		clear(v.Ids)
	}
	if after := picture(m); after != before {
		t.Errorf("P2: what is done to answers changed\n%s\nto\n%s", before, after)
	}
}
