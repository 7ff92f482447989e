package things

import (
	"math/rand"
	"reflect"
	"slices"
	"strings"
	"testing"
	"unsafe"

	"braid/api"
	"braid/causes"
	"braid/crdt"
)

func at(origin int, op api.Op, clock ...int) api.Update {
	return api.Update{Origin: origin, Clock: clock, Op: op}
}

func set(kind uint8, text string) api.Op {
	return api.Op{Type: api.Set, Kind: kind, Name: "x", Text: text}
}

func write(text string) api.Op { return api.Op{Type: api.Register, Name: "x", Text: text} }

func count(n int) api.Op { return api.Op{Type: api.Counter, Name: "x", Amount: n} }

func put(text string, origin, seq int) api.Op {
	return api.Op{Type: api.Sequence, Name: "x", Text: text, Anchor: api.Id{Origin: origin, Seq: seq}}
}

func remove(origin, seq int) api.Op {
	return api.Op{Type: api.Sequence, Kind: api.Delete, Name: "x", Anchor: api.Id{Origin: origin, Seq: seq}}
}

func taken(l ...api.Update) *Things {
	t := New()
	for _, u := range l {
		t.Take(u)
	}
	return t
}

func TestExamples(t *testing.T) {
	for _, c := range []struct {
		what string
		kind uint8
		l    []api.Update
		want api.Value
	}{
		{"a set that is not there", api.Set, nil, api.Value{}},
		{"a register that is not there", api.Register, nil, api.Value{}},
		{"a counter that is not there", api.Counter, nil, api.Value{}},
		{"a sequence that is not there", api.Sequence, nil, api.Value{}},
		{"the document's set", api.Set, []api.Update{at(0, set(api.Add, "a"), 1, 0), at(1, set(api.Add, "a"), 0, 1), at(0, set(api.Remove, "a"), 2, 0)}, api.Value{Texts: []string{"a"}}},
		{"the same, in another order", api.Set, []api.Update{at(0, set(api.Add, "a"), 1, 0), at(0, set(api.Remove, "a"), 2, 0), at(1, set(api.Add, "a"), 0, 1)}, api.Value{Texts: []string{"a"}}},
		{"an add again, and a remove that knew of the first one alone", api.Set, []api.Update{at(0, set(api.Add, "a"), 1, 0), at(0, set(api.Add, "a"), 2, 0), at(1, set(api.Remove, "a"), 1, 1)}, api.Value{Texts: []string{"a"}}},
		{"an add again, and a remove of both", api.Set, []api.Update{at(0, set(api.Add, "a"), 1, 0), at(0, set(api.Add, "a"), 2, 0), at(1, set(api.Remove, "a"), 2, 1)}, api.Value{}},
		{"two adds, neither known to the other", api.Set, []api.Update{at(0, set(api.Add, "a"), 1, 0), at(1, set(api.Add, "a"), 0, 1), at(1, set(api.Remove, "a"), 0, 2), at(0, set(api.Remove, "a"), 2, 0)}, api.Value{}},
		{"a clear", api.Set, []api.Update{at(0, set(api.Add, "a"), 1, 0), at(1, set(api.Add, "b"), 0, 1), at(0, set(api.Add, "c"), 2, 0), at(0, set(api.Clear, ""), 3, 0)}, api.Value{Texts: []string{"b"}}},
		{"order of bytes", api.Set, []api.Update{at(0, set(api.Add, "b"), 1, 0), at(0, set(api.Add, "\xff"), 2, 0), at(0, set(api.Add, ""), 3, 0), at(0, set(api.Add, "B"), 4, 0)}, api.Value{Texts: []string{"", "B", "b", "\xff"}}},
		{"the document's register", api.Register, []api.Update{at(0, write("x"), 1, 0), at(1, write("y"), 0, 1)}, api.Value{Texts: []string{"x", "y"}}},
		{"the document's register, further", api.Register, []api.Update{at(0, write("x"), 1, 0), at(1, write("y"), 0, 1), at(1, write("z"), 1, 2)}, api.Value{Texts: []string{"z"}}},
		{"one text from two", api.Register, []api.Update{at(0, write("x"), 1, 0, 0), at(1, write("x"), 0, 1, 0), at(2, write("y"), 1, 0, 1)}, api.Value{Texts: []string{"x", "y"}}},
		{"a sum", api.Counter, []api.Update{at(0, count(5), 1, 0), at(1, count(-7), 0, 1)}, api.Value{N: -2}},
		{"the document's sequence", api.Sequence, []api.Update{at(0, put("a", 0, 0), 1, 0), at(0, put("b", 0, 1), 2, 0), at(1, put("c", 0, 1), 2, 1)}, api.Value{Texts: []string{"a", "c", "b"}, Ids: []api.Id{{Origin: 0, Seq: 1}, {Origin: 1, Seq: 1}, {Origin: 0, Seq: 2}}}},
		{"the document's sequence, further", api.Sequence, []api.Update{at(0, put("a", 0, 0), 1, 0), at(0, put("b", 0, 1), 2, 0), at(1, put("c", 0, 1), 2, 1), at(0, remove(0, 1), 3, 0)}, api.Value{Texts: []string{"c", "b"}, Ids: []api.Id{{Origin: 1, Seq: 1}, {Origin: 0, Seq: 2}}}},
		{"one that hangs on what was deleted", api.Sequence, []api.Update{at(0, put("a", 0, 0), 1, 0), at(0, remove(0, 1), 2, 0), at(1, put("b", 0, 1), 1, 1), at(0, put("c", 0, 0), 3, 0)}, api.Value{Texts: []string{"c", "b"}, Ids: []api.Id{{Origin: 0, Seq: 3}, {Origin: 1, Seq: 1}}}},
		{"an anchor that is not there", api.Sequence, []api.Update{at(0, put("a", 0, 0), 1, 0), at(0, put("b", 1, 3), 2, 0), at(0, put("c", 7, 1000), 3, 0)}, api.Value{Texts: []string{"c", "b", "a"}, Ids: []api.Id{{Origin: 0, Seq: 3}, {Origin: 0, Seq: 2}, {Origin: 0, Seq: 1}}}},
		{"an anchor that is no insert", api.Sequence, []api.Update{at(0, count(1), 1, 0), at(0, put("a", 0, 0), 2, 0), at(0, put("b", 0, 1), 3, 0), at(0, put("c", 0, 3), 4, 0)}, api.Value{Texts: []string{"b", "c", "a"}, Ids: []api.Id{{Origin: 0, Seq: 3}, {Origin: 0, Seq: 4}, {Origin: 0, Seq: 2}}}},
		{"its own anchor", api.Sequence, []api.Update{at(0, put("a", 0, 1), 1, 0), at(0, put("b", 0, 1), 2, 0)}, api.Value{Texts: []string{"a", "b"}, Ids: []api.Id{{Origin: 0, Seq: 1}, {Origin: 0, Seq: 2}}}},
		{"an anchor of the same age", api.Sequence, []api.Update{at(0, put("a", 0, 0), 1, 0, 0), at(1, put("b", 0, 0), 1, 1, 0), at(2, put("c", 1, 1), 0, 1, 1)}, api.Value{Texts: []string{"c", "b", "a"}, Ids: []api.Id{{Origin: 2, Seq: 1}, {Origin: 1, Seq: 1}, {Origin: 0, Seq: 1}}}},
		{"deletes of what is no insert", api.Sequence, []api.Update{at(0, remove(0, 0), 1, 0), at(0, remove(0, 1), 2, 0), at(0, remove(0, 3), 3, 0), at(0, remove(1, 9), 4, 0), at(0, put("a", 0, 3), 5, 0), at(0, put("b", 1, 9), 6, 0)}, api.Value{Texts: []string{"b", "a"}, Ids: []api.Id{{Origin: 0, Seq: 6}, {Origin: 0, Seq: 5}}}},
		{"one that comes late passes what hangs on its neighbour", api.Sequence, []api.Update{at(0, put("a", 0, 0), 1, 0), at(0, put("b", 0, 1), 2, 0), at(0, put("c", 0, 2), 3, 0), at(1, put("d", 0, 0), 0, 1), at(1, put("e", 1, 1), 0, 2)}, api.Value{Texts: []string{"d", "e", "a", "b", "c"}, Ids: []api.Id{{Origin: 1, Seq: 1}, {Origin: 1, Seq: 2}, {Origin: 0, Seq: 1}, {Origin: 0, Seq: 2}, {Origin: 0, Seq: 3}}}},
	} {
		if v := taken(c.l...).Value(c.kind, "x"); !reflect.DeepEqual(v, c.want) {
			t.Errorf("P5: %s: %+v, want %+v", c.what, v, c.want)
		}
	}
}

func TestThingsAreApart(t *testing.T) {
	things := taken(at(0, set(api.Add, "a"), 1, 0), at(0, write("b"), 2, 0), at(0, count(3), 3, 0), at(0, put("d", 0, 0), 4, 0))
	for kind, want := range []api.Value{{Texts: []string{"a"}}, {Texts: []string{"b"}}, {N: 3}, {Texts: []string{"d"}, Ids: []api.Id{{Origin: 0, Seq: 4}}}} {
		if v := things.Value(uint8(kind), "x"); !reflect.DeepEqual(v, want) {
			t.Errorf("P5: type %d: %+v, want %+v", kind, v, want)
		}
		if v := things.Value(uint8(kind), "y"); !reflect.DeepEqual(v, api.Value{}) {
			t.Errorf("P5: type %d, elsewhere: %+v", kind, v)
		}
	}
}

func TestShows(t *testing.T) {
	things := taken(at(0, put("a", 0, 0), 1, 0), at(0, put("b", 0, 0), 2, 0), at(0, remove(0, 1), 3, 0), at(0, set(api.Add, "a"), 4, 0))
	for _, c := range []struct {
		name string
		id   api.Id
		want bool
	}{{"x", api.Id{Seq: 2}, true}, {"x", api.Id{Seq: 1}, false}, {"x", api.Id{}, false}, {"x", api.Id{Seq: 3}, false}, {"x", api.Id{Seq: 4}, false}, {"x", api.Id{Origin: 1, Seq: 2}, false}, {"y", api.Id{Seq: 2}, false}, {"y", api.Id{}, false}} {
		if things.Shows(c.name, c.id) != c.want {
			t.Errorf("P5: %s shows %v: %v", c.name, c.id, !c.want)
		}
	}
}

// history: updates as replicas would make them, with each sequence's anchors
// such as the origin shows; each stands behind all that it knew of.
func history(r *rand.Rand, replicas, n int) []api.Update {
	var l []api.Update
	has := make([]causes.Reach, replicas)
	for range n {
		i, j := r.Intn(replicas), r.Intn(replicas)
		if r.Intn(2) == 0 {
			has[i] = has[i].With(has[j][:])
		}
		op := anyOp(r, slices.DeleteFunc(slices.Clone(l), func(u api.Update) bool { return !has[i].Has(causes.Id(u)) }))
		has[i][i]++
		l = append(l, at(i, op, slices.Clone(has[i][:replicas])...))
	}
	return l
}

func anyOp(r *rand.Rand, l []api.Update) api.Op {
	text := string('a' + rune(r.Intn(3)))
	name := string('x' + rune(r.Intn(4)/3))
	op := []api.Op{set(api.Add, text), set(api.Add, text), set(api.Remove, text), set(api.Clear, ""), write(text), count(r.Intn(2001) - 1000), put(text, 0, 0), put(text, 0, 0), put(text, 0, 0), put(text, 0, 0), remove(0, 0)}[r.Intn(11)]
	op.Name = name
	v, _ := crdt.Value(api.Sequence, name, l)
	if op.Type != api.Sequence {
		return op
	}
	if len(v.Ids) == 0 {
		return api.Op{Type: api.Sequence, Name: name, Text: text}
	}
	if op.Kind == api.Delete || r.Intn(4) > 0 {
		op.Anchor = v.Ids[r.Intn(len(v.Ids))]
	}
	return op
}

// mixed: another order, in which each is still behind all that it knew of.
func mixed(r *rand.Rand, l []api.Update) []api.Update {
	var out []api.Update
	var has causes.Reach
	l = slices.Clone(l)
	for len(l) > 0 {
		i := r.Intn(len(l))
		if has.IsNext(l[i]) {
			out = append(out, l[i])
			has = has.With(l[i].Clock)
			l = slices.Delete(l, i, i+1)
		}
	}
	return out
}

// What is shown is what all updates that came come to, whatever was dropped.
func TestAgainstAllUpdates(t *testing.T) {
	r := rand.New(rand.NewSource(5))
	for round := range 60 {
		l := history(r, 2+r.Intn(7), 60)
		for range 3 {
			l = mixed(r, l)
			things := New()
			for n, u := range l {
				things.Take(u)
				for kind := range uint8(4) {
					for _, name := range []string{"x", "y", "z"} {
						want, _ := crdt.Value(kind, name, l[:n+1])
						if v := things.Value(kind, name); !reflect.DeepEqual(v, want) {
							t.Fatalf("P5, P10: round %d: type %d, name %s of %+v: %+v, want %+v", round, kind, name, l[:n+1], v, want)
						}
					}
				}
			}
		}
	}
}

// strange: updates as nobody would make them, but for this: each stands behind
// all that it knew of, its anchor among them.
func strange(r *rand.Rand, replicas, n int) []api.Update {
	var l []api.Update
	var has causes.Reach
	for range n {
		origin := r.Intn(replicas)
		clock := make([]int, replicas)
		for k := range clock {
			clock[k] = r.Intn(has[k] + 1)
		}
		has[origin]++
		clock[origin] = has[origin]
		k := r.Intn(replicas)
		seq := r.Intn(clock[k] + 1)
		if seq == 0 {
			k = 0
		}
		op := []api.Op{write("a"), write("b"), count(3), put("c", k, seq), put("d", k, seq), remove(k, seq), set(api.Add, "a")}[r.Intn(7)]
		l = append(l, at(origin, op, clock...))
	}
	return l
}

func TestStrangeUpdates(t *testing.T) {
	r := rand.New(rand.NewSource(14))
	for round := range 200 {
		l := strange(r, 2+r.Intn(7), 60)
		l = mixed(r, l)
		things := New()
		for n, u := range l {
			things.Take(u)
			for _, kind := range []uint8{api.Register, api.Counter, api.Sequence} {
				want, e := crdt.Value(kind, "x", l[:n+1])
				if v := things.Value(kind, "x"); e != api.OK || !reflect.DeepEqual(v, want) {
					t.Fatalf("P1, P10: round %d: type %d of %+v: %+v, want %+v, %d", round, kind, l[:n+1], v, want, e)
				}
			}
		}
	}
}

// Whatever clocks and anchors the updates have, if each comes once, taking them
// in ends.
func TestAnyUpdates(t *testing.T) {
	r := rand.New(rand.NewSource(15))
	for range 300 {
		things := New()
		for _, n := range r.Perm(60) {
			clock := make([]int, 2+r.Intn(7))
			for k := range clock {
				clock[k] = r.Intn(70)
			}
			origin := r.Intn(len(clock))
			clock[origin] = 1 + n
			k, seq := r.Intn(8), 1+r.Intn(60)
			ops := []api.Op{set(api.Add, "a"), set(api.Remove, "a"), set(api.Clear, ""), write("a"), count(1), put("c", k, seq), remove(k, seq)}
			things.Take(at(origin, ops[r.Intn(len(ops))], clock...))
			for kind := range uint8(4) {
				things.Value(kind, "x")
			}
		}
	}
}

// What shows no more is not kept, but for the place of a deleted insert.
func TestNothingIsLeft(t *testing.T) {
	things := New()
	for n := range 1000 {
		things.Take(at(0, set(api.Add, "a"), 2*n+1, 0))
		things.Take(at(0, write("a"), 2*n+2, 0))
	}
	for key, kept := range things.texts {
		if len(kept) != 1 || len(kept["a"]) != 1 {
			t.Errorf("P8: %v keeps %v", key, kept)
		}
	}
	things.Take(at(0, set(api.Clear, ""), 2001, 0))
	things.Take(at(0, put("a", 0, 0), 2002, 0))
	things.Take(at(0, remove(0, 2002), 2003, 0))
	if kept := things.texts[thing{api.Set, "x"}]; len(kept) != 0 {
		t.Errorf("P8: the set keeps %v", kept)
	}
	if x := things.rows["x"][api.Id{Seq: 2002}]; x.text != "" {
		t.Errorf("P8: the sequence keeps %q", x.text)
	}
}

func TestFreshMemory(t *testing.T) {
	for kind, op := range map[uint8]api.Op{api.Set: set(api.Add, "abc"), api.Register: write("abc"), api.Sequence: put("abc", 0, 0)} {
		things := taken(at(0, op, 1, 0))
		v := things.Value(kind, "x")
		if unsafe.StringData(v.Texts[0]) == unsafe.StringData(op.Text) {
			t.Errorf("P2: type %d: %q shares memory with what was taken", kind, v.Texts)
		}
		v.Texts[0] = "changed"
		clear(v.Ids)
		if v = things.Value(kind, "x"); strings.Join(v.Texts, " ") != "abc" || kind == api.Sequence && v.Ids[0].Seq != 1 {
			t.Errorf("P2: type %d: %+v, once an answer is changed", kind, v)
		}
	}
}

func TestNothingIsChanged(t *testing.T) {
	for _, op := range []api.Op{set(api.Add, "a"), set(api.Remove, "a"), set(api.Clear, ""), write("a"), count(1), put("a", 0, 0), remove(0, 1)} {
		u := at(0, op, 2, 0)
		taken(at(0, put("a", 0, 0), 1, 0), u)
		if !reflect.DeepEqual(u, at(0, op, 2, 0)) {
			t.Errorf("P2: %+v is %+v now", op, u)
		}
	}
}
