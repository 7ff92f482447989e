package crdt

import (
	"math/rand"
	"reflect"
	"slices"
	"strings"
	"testing"
	"unsafe"

	"braid/api"
)

func at(origin int, op api.Op, clock ...int) api.Update {
	return api.Update{Origin: origin, Clock: clock, Op: op}
}

func add(s string) api.Op    { return api.Op{Type: api.Set, Kind: api.Add, Name: "x", Text: s} }
func remove(s string) api.Op { return api.Op{Type: api.Set, Kind: api.Remove, Name: "x", Text: s} }
func empty() api.Op          { return api.Op{Type: api.Set, Kind: api.Clear, Name: "x"} }
func write(s string) api.Op  { return api.Op{Type: api.Register, Kind: api.Write, Name: "x", Text: s} }
func count(n int) api.Op     { return api.Op{Type: api.Counter, Kind: api.Count, Name: "x", Amount: n} }

func put(s string, origin, seq int) api.Op {
	return api.Op{Type: api.Sequence, Kind: api.Insert, Name: "x", Text: s, Anchor: api.Id{Origin: origin, Seq: seq}}
}

func cut(origin, seq int) api.Op {
	return api.Op{Type: api.Sequence, Kind: api.Delete, Name: "x", Anchor: api.Id{Origin: origin, Seq: seq}}
}

// elsewhere: the same operation on a thing of another name.
func elsewhere(op api.Op) api.Op {
	op.Name = "y"
	return op
}

func texts(l ...string) api.Value { return api.Value{Texts: l} }

// shown: the value of a sequence, with as many ids as texts.
func shown(l []string, ids ...api.Id) api.Value { return api.Value{Texts: l, Ids: ids} }

var text20 = strings.Repeat("t", 20)

var cases = []struct {
	what string
	kind uint8
	l    []api.Update
	want api.Value
}{
	{"set: nil", api.Set, nil, api.Value{}},
	{"set: an empty list", api.Set, []api.Update{}, api.Value{}},
	{"set: one add", api.Set, []api.Update{at(0, add("a"), 1, 0)}, texts("a")},
	{"set: the empty text", api.Set, []api.Update{at(0, add(""), 1, 0)}, texts("")},
	{"set: order of bytes", api.Set, []api.Update{at(0, add("b"), 1, 0), at(0, add("\xff"), 2, 0), at(0, add("ab"), 3, 0), at(0, add(""), 4, 0), at(0, add("B"), 5, 0), at(0, add("a"), 6, 0), at(0, add("a\x00"), 7, 0), at(0, add("é"), 8, 0)}, texts("", "B", "a", "a\x00", "ab", "b", "é", "\xff")},
	{"set: each once", api.Set, []api.Update{at(0, add("a"), 1, 0), at(1, add("b"), 0, 1), at(1, add("a"), 0, 2), at(0, add("a"), 2, 2)}, texts("a", "b")},
	{"set: the document's example", api.Set, []api.Update{at(0, add("a"), 1, 0), at(1, add("a"), 0, 1), at(0, remove("a"), 2, 0)}, texts("a")},
	{"set: a remove behind both", api.Set, []api.Update{at(0, add("a"), 1, 0), at(1, add("a"), 0, 1), at(0, remove("a"), 2, 1)}, api.Value{}},
	{"set: two removes, each behind one", api.Set, []api.Update{at(0, add("a"), 1, 0), at(1, add("a"), 0, 1), at(0, remove("a"), 2, 0), at(1, remove("a"), 0, 2)}, api.Value{}},
	{"set: removed, and added again", api.Set, []api.Update{at(0, add("a"), 1, 0), at(0, remove("a"), 2, 0), at(0, add("a"), 3, 0)}, texts("a")},
	{"set: a remove of another text", api.Set, []api.Update{at(0, add("a"), 1, 0), at(0, remove("b"), 2, 0)}, texts("a")},
	{"set: a remove of nothing", api.Set, []api.Update{at(0, remove("a"), 1, 0)}, api.Value{}},
	{"set: a remove that knew of more than there is", api.Set, []api.Update{at(0, remove("a"), 1000, 1000), at(1, add("a"), 0, 999), at(0, add("b"), 1, 0)}, texts("b")},
	{"set: a clear", api.Set, []api.Update{at(0, add("a"), 1, 0), at(1, add("b"), 0, 1), at(0, add("c"), 2, 0), at(0, empty(), 3, 0), at(0, add("d"), 4, 0)}, texts("b", "d")},
	{"set: two clears, each behind one", api.Set, []api.Update{at(0, add("a"), 1, 0), at(1, add("a"), 0, 1), at(0, empty(), 2, 0), at(1, empty(), 0, 2)}, api.Value{}},
	{"set: a remove and an add that knew of one another", api.Set, []api.Update{at(0, add("a"), 1, 1), at(1, remove("a"), 1, 1)}, api.Value{}},
	{"set: a remove that an add knew of", api.Set, []api.Update{at(0, add("a"), 1, 1), at(1, remove("a"), 0, 1)}, texts("a")},
	{"set: removes of other things", api.Set, []api.Update{at(0, add("a"), 1, 0), at(0, elsewhere(remove("a")), 2, 0), at(0, elsewhere(empty()), 3, 0), at(0, elsewhere(add("b")), 4, 0), at(0, write("c"), 5, 0), at(0, count(1), 6, 0), at(0, put("d", 0, 0), 7, 0), at(0, cut(0, 1), 8, 0)}, texts("a")},
	{"set: of eight replicas", api.Set, []api.Update{at(7, add("a"), 0, 0, 0, 0, 0, 0, 0, 1), at(7, add("b"), 0, 0, 0, 0, 0, 0, 0, 2), at(6, remove("a"), 0, 0, 0, 0, 0, 0, 1, 1), at(6, remove("b"), 0, 0, 0, 0, 0, 0, 2, 1)}, texts("b")},

	{"register: nil", api.Register, nil, api.Value{}},
	{"register: one write", api.Register, []api.Update{at(1, write(text20), 0, 1)}, texts(text20)},
	{"register: the document's example", api.Register, []api.Update{at(0, write("x"), 1, 0), at(1, write("y"), 0, 1)}, texts("x", "y")},
	{"register: the document's example, further", api.Register, []api.Update{at(0, write("x"), 1, 0), at(1, write("y"), 0, 1), at(1, write("z"), 1, 2)}, texts("z")},
	{"register: behind one of two", api.Register, []api.Update{at(0, write("x"), 1, 0), at(1, write("y"), 0, 1), at(1, write("a"), 0, 2)}, texts("a", "x")},
	{"register: one text twice", api.Register, []api.Update{at(0, write("x"), 1, 0), at(1, write("x"), 0, 1)}, texts("x")},
	{"register: of one origin", api.Register, []api.Update{at(0, write("x"), 1, 0), at(0, write(""), 2, 0)}, texts("")},
	{"register: two behind one", api.Register, []api.Update{at(0, write("x"), 1, 0, 0), at(1, write("y"), 1, 1, 0), at(2, write("z"), 1, 0, 1)}, texts("y", "z")},
	{"register: two that knew of one another", api.Register, []api.Update{at(0, write("x"), 1, 1), at(1, write("y"), 1, 1)}, api.Value{}},
	{"register: one that knew of more than there is", api.Register, []api.Update{at(0, write("x"), 5, 9), at(1, write("y"), 0, 3)}, texts("x")},
	{"register: writes elsewhere", api.Register, []api.Update{at(0, write("x"), 1, 0), at(0, elsewhere(write("y")), 2, 0), at(0, add("z"), 3, 0)}, texts("x")},

	{"counter: nil", api.Counter, nil, api.Value{}},
	{"counter: the sum", api.Counter, []api.Update{at(0, count(5), 1, 0), at(1, count(-7), 0, 1), at(1, count(0), 0, 2), at(1, count(-1000), 1, 3)}, api.Value{N: -1002}},
	{"counter: back to 0", api.Counter, []api.Update{at(0, count(1000), 1, 0), at(1, count(-1000), 0, 1)}, api.Value{}},
	{"counter: counts elsewhere", api.Counter, []api.Update{at(0, count(1), 1, 0), at(0, elsewhere(count(2)), 2, 0), at(0, add("a"), 3, 0)}, api.Value{N: 1}},

	{"sequence: nil", api.Sequence, nil, api.Value{}},
	{"sequence: one insert", api.Sequence, []api.Update{at(0, put("", 0, 0), 1, 0)}, shown([]string{""}, api.Id{Origin: 0, Seq: 1})},
	{"sequence: the document's example", api.Sequence, []api.Update{at(0, put("a", 0, 0), 1, 0), at(0, put("b", 0, 1), 2, 0), at(1, put("c", 0, 1), 2, 1)}, shown([]string{"a", "c", "b"}, api.Id{Origin: 0, Seq: 1}, api.Id{Origin: 1, Seq: 1}, api.Id{Origin: 0, Seq: 2})},
	{"sequence: the document's example, further", api.Sequence, []api.Update{at(0, put("a", 0, 0), 1, 0), at(0, put("b", 0, 1), 2, 0), at(1, put("c", 0, 1), 2, 1), at(1, cut(0, 1), 2, 2)}, shown([]string{"c", "b"}, api.Id{Origin: 1, Seq: 1}, api.Id{Origin: 0, Seq: 2})},
	{"sequence: texts that are the same stay", api.Sequence, []api.Update{at(0, put("a", 0, 0), 1, 0), at(0, put("a", 0, 1), 2, 0)}, shown([]string{"a", "a"}, api.Id{Origin: 0, Seq: 1}, api.Id{Origin: 0, Seq: 2})},
	{"sequence: ages", api.Sequence, []api.Update{at(0, put("a", 0, 0), 3, 0), at(1, put("b", 0, 0), 3, 1), at(0, put("c", 0, 0), 2, 0)}, shown([]string{"b", "a", "c"}, api.Id{Origin: 1, Seq: 1}, api.Id{Origin: 0, Seq: 3}, api.Id{Origin: 0, Seq: 2})},
	{"sequence: one age, origins", api.Sequence, []api.Update{at(1, put("b", 0, 0), 0, 1, 0), at(0, put("a", 0, 0), 1, 0, 0), at(2, put("c", 0, 0), 0, 0, 1)}, shown([]string{"c", "b", "a"}, api.Id{Origin: 2, Seq: 1}, api.Id{Origin: 1, Seq: 1}, api.Id{Origin: 0, Seq: 1})},
	{"sequence: one age and origin, seqs", api.Sequence, []api.Update{at(0, put("b", 0, 0), 2, 1), at(0, put("c", 0, 0), 3, 0), at(0, put("a", 0, 0), 1, 2)}, shown([]string{"c", "b", "a"}, api.Id{Origin: 0, Seq: 3}, api.Id{Origin: 0, Seq: 2}, api.Id{Origin: 0, Seq: 1})},
	{"sequence: the origin ahead of the seq", api.Sequence, []api.Update{at(0, put("a", 0, 0), 5, 0), at(1, put("b", 0, 0), 4, 1)}, shown([]string{"b", "a"}, api.Id{Origin: 1, Seq: 1}, api.Id{Origin: 0, Seq: 5})},
	{"sequence: all that hang on one stand together", api.Sequence, []api.Update{at(0, put("a", 0, 0), 1, 0), at(0, put("b", 0, 0), 2, 0), at(0, put("c", 0, 1), 3, 0), at(0, put("d", 0, 2), 4, 0), at(0, put("e", 0, 1), 5, 0), at(0, put("f", 0, 3), 6, 0)}, shown([]string{"b", "d", "a", "e", "c", "f"}, api.Id{Origin: 0, Seq: 2}, api.Id{Origin: 0, Seq: 4}, api.Id{Origin: 0, Seq: 1}, api.Id{Origin: 0, Seq: 5}, api.Id{Origin: 0, Seq: 3}, api.Id{Origin: 0, Seq: 6})},
	{"sequence: its own anchor", api.Sequence, []api.Update{at(0, put("a", 0, 1), 1, 0), at(0, put("b", 0, 1), 2, 0)}, shown([]string{"a", "b"}, api.Id{Origin: 0, Seq: 1}, api.Id{Origin: 0, Seq: 2})},
	{"sequence: no such anchor", api.Sequence, []api.Update{at(0, put("a", 7, 1000), 1, 0), at(0, put("b", 1, 1), 2, 0)}, shown([]string{"b", "a"}, api.Id{Origin: 0, Seq: 2}, api.Id{Origin: 0, Seq: 1})},
	{"sequence: an anchor of a greater age", api.Sequence, []api.Update{at(0, put("a", 0, 2), 1, 0), at(0, put("b", 0, 0), 2, 0)}, shown([]string{"b", "a"}, api.Id{Origin: 0, Seq: 2}, api.Id{Origin: 0, Seq: 1})},
	{"sequence: an anchor of the same age", api.Sequence, []api.Update{at(0, put("a", 1, 1), 1, 0), at(1, put("b", 0, 1), 0, 1), at(0, put("c", 0, 0), 2, 0)}, shown([]string{"c", "b", "a"}, api.Id{Origin: 0, Seq: 2}, api.Id{Origin: 1, Seq: 1}, api.Id{Origin: 0, Seq: 1})},
	{"sequence: an anchor of a lower age that it did not know of", api.Sequence, []api.Update{at(0, put("a", 0, 0), 1, 0), at(1, put("b", 0, 1), 0, 2), at(1, put("c", 0, 0), 0, 3)}, shown([]string{"c", "a", "b"}, api.Id{Origin: 1, Seq: 3}, api.Id{Origin: 0, Seq: 1}, api.Id{Origin: 1, Seq: 2})},
	{"sequence: anchors round about", api.Sequence, []api.Update{at(0, put("a", 0, 3), 1, 0), at(0, put("b", 0, 1), 2, 0), at(0, put("c", 0, 2), 3, 0)}, shown([]string{"a", "b", "c"}, api.Id{Origin: 0, Seq: 1}, api.Id{Origin: 0, Seq: 2}, api.Id{Origin: 0, Seq: 3})},
	{"sequence: an anchor elsewhere", api.Sequence, []api.Update{at(0, elsewhere(put("a", 0, 0)), 1, 0), at(0, put("b", 0, 0), 2, 0), at(0, put("c", 0, 1), 3, 0)}, shown([]string{"c", "b"}, api.Id{Origin: 0, Seq: 3}, api.Id{Origin: 0, Seq: 2})},
	{"sequence: an anchor that is a delete", api.Sequence, []api.Update{at(0, cut(1, 1), 1, 0), at(0, put("b", 0, 0), 2, 0), at(0, put("c", 0, 1), 3, 0)}, shown([]string{"c", "b"}, api.Id{Origin: 0, Seq: 3}, api.Id{Origin: 0, Seq: 2})},
	{"sequence: a delete that did not know", api.Sequence, []api.Update{at(0, put("a", 0, 0), 1, 0), at(1, cut(0, 1), 0, 1)}, api.Value{}},
	{"sequence: a delete that the insert knew of", api.Sequence, []api.Update{at(0, put("a", 0, 0), 1, 1), at(1, cut(0, 1), 0, 1)}, api.Value{}},
	{"sequence: two deletes of one", api.Sequence, []api.Update{at(0, put("a", 0, 0), 1, 0), at(0, put("b", 0, 0), 2, 0), at(1, cut(0, 1), 2, 1), at(0, cut(0, 1), 3, 0)}, shown([]string{"b"}, api.Id{Origin: 0, Seq: 2})},
	{"sequence: a delete elsewhere", api.Sequence, []api.Update{at(0, put("a", 0, 0), 1, 0), at(0, elsewhere(cut(0, 1)), 2, 0)}, shown([]string{"a"}, api.Id{Origin: 0, Seq: 1})},
	{"sequence: deletes of nothing", api.Sequence, []api.Update{at(0, cut(0, 0), 1, 0), at(0, cut(7, 1000), 2, 0), at(0, cut(0, 3), 3, 0), at(0, put("a", 0, 0), 4, 0)}, shown([]string{"a"}, api.Id{Origin: 0, Seq: 4})},
}

func TestValue(t *testing.T) {
	for _, c := range cases {
		if v, e := Value(c.kind, "x", c.l); e != api.OK || !reflect.DeepEqual(v, c.want) {
			t.Errorf("P4: %s: %+v, %d, want %+v", c.what, v, e, c.want)
		}
		back := slices.Clone(c.l)
		slices.Reverse(back)
		if v, e := Value(c.kind, "x", back); e != api.OK || !reflect.DeepEqual(v, c.want) {
			t.Errorf("P4: %s, from the last one on: %+v, %d, want %+v", c.what, v, e, c.want)
		}
	}
}

func TestNames(t *testing.T) {
	for _, name := range []string{"\x00", "x", "eight888", "\xff\xfe"} {
		op := api.Op{Type: api.Counter, Name: name, Amount: 3}
		if v, e := Value(api.Counter, name, []api.Update{at(0, op, 1, 0)}); e != api.OK || v.N != 3 {
			t.Errorf("P4: name %q: %+v, %d", name, v, e)
		}
	}
}

func TestErrors(t *testing.T) {
	good := at(0, add("a"), 1, 0)
	next := at(0, write("a"), 2, 0)
	none := at(0, add("a"), 0, 0)
	for _, c := range []struct {
		what string
		kind uint8
		name string
		l    []api.Update
		want api.Errno
	}{
		{"type 4", 4, "x", nil, api.ErrArg},
		{"type 255", 255, "x", []api.Update{good}, api.ErrArg},
		{"no name", api.Set, "", []api.Update{good}, api.ErrArg},
		{"a name of 9", api.Set, "ninebytes", []api.Update{good}, api.ErrArg},
		{"a name of a million", api.Set, strings.Repeat("x", 1000000), nil, api.ErrArg},
		{"type 4 and no update", 4, "x", []api.Update{none}, api.ErrArg},
		{"no name and no update", api.Set, "", []api.Update{{}}, api.ErrArg},
		{"no name and one id twice", api.Set, "", []api.Update{good, good}, api.ErrArg},
		{"type 4 and clocks of two lengths", 4, "x", []api.Update{good, at(1, add("a"), 0, 1, 0)}, api.ErrArg},
		{"nothing", api.Set, "x", []api.Update{{}}, api.ErrOp},
		{"no update, first", api.Set, "x", []api.Update{none, good, next}, api.ErrOp},
		{"no update, last", api.Set, "x", []api.Update{good, next, none}, api.ErrOp},
		{"no update, of another type", api.Counter, "x", []api.Update{good, none}, api.ErrOp},
		{"no update, of another name", api.Set, "y", []api.Update{good, none}, api.ErrOp},
		{"no origin", api.Set, "x", []api.Update{at(2, add("a"), 1, 1)}, api.ErrOp},
		{"an origin below 0", api.Set, "x", []api.Update{at(-1, add("a"), 1, 1)}, api.ErrOp},
		{"no clock", api.Set, "x", []api.Update{at(0, add("a"))}, api.ErrOp},
		{"a clock of 9", api.Set, "x", []api.Update{at(0, add("a"), 1, 0, 0, 0, 0, 0, 0, 0, 0)}, api.ErrOp},
		{"a clock above 1000", api.Set, "x", []api.Update{at(0, add("a"), 1, 1001)}, api.ErrOp},
		{"no kind", api.Set, "x", []api.Update{at(0, api.Op{Kind: 3, Name: "x"}, 1, 0)}, api.ErrOp},
		{"a clear with a text", api.Set, "x", []api.Update{at(0, api.Op{Kind: api.Clear, Name: "x", Text: "a"}, 1, 0)}, api.ErrOp},
		{"a text of 21", api.Set, "x", []api.Update{at(0, add(text20+"t"), 1, 0)}, api.ErrOp},
		{"clocks of two lengths", api.Set, "x", []api.Update{good, at(1, add("a"), 0, 1, 0)}, api.ErrOp},
		{"clocks of two lengths, elsewhere", api.Sequence, "y", []api.Update{good, next, at(0, add("a"), 3, 0, 0)}, api.ErrOp},
		{"the first clock is longer", api.Set, "x", []api.Update{at(1, add("a"), 0, 1, 0), good}, api.ErrOp},
		{"one update twice", api.Set, "x", []api.Update{good, good}, api.ErrOp},
		{"two of one id", api.Set, "x", []api.Update{good, next, at(0, add("b"), 1, 7)}, api.ErrOp},
		{"two of one id, of two things", api.Set, "x", []api.Update{good, at(0, write("a"), 1, 0)}, api.ErrOp},
		{"two of one id, elsewhere", api.Counter, "y", []api.Update{next, good, at(0, elsewhere(count(1)), 3, 0), next}, api.ErrOp},
	} {
		if v, e := Value(c.kind, c.name, c.l); e != c.want || !reflect.DeepEqual(v, api.Value{}) {
			t.Errorf("P4: %s: %+v, %d, want %d", c.what, v, e, c.want)
		}
	}
}

// More than there can be: some must have one id.
func TestTooMany(t *testing.T) {
	l := many(func(n int, last api.Id) api.Op { return count(1000) })
	if v, e := Value(api.Counter, "x", l); e != api.OK || v.N != 8000*1000 {
		t.Errorf("P4: all that there can be: %+v, %d", v, e)
	}
	l = append(l, l[4321])
	if v, e := Value(api.Counter, "x", l); e != api.ErrOp || !reflect.DeepEqual(v, api.Value{}) {
		t.Errorf("P4: one more: %+v, %d", v, e)
	}
}

// many: all updates that eight replicas can make, each behind all before it.
func many(op func(n int, last api.Id) api.Op) []api.Update {
	var l []api.Update
	var last api.Id
	clock := make([]int, 8)
	for n := range 8000 {
		clock[n%8]++
		l = append(l, at(n%8, op(n, last), slices.Clone(clock)...))
		last = api.Id{Origin: n % 8, Seq: clock[n%8]}
	}
	return l
}

func TestDeep(t *testing.T) {
	l := many(func(n int, last api.Id) api.Op { return put("t", last.Origin, last.Seq) })
	v, e := Value(api.Sequence, "x", shuffled(l, rand.New(rand.NewSource(1))))
	if e != api.OK || !slices.Equal(v.Ids, idsOf(l)) {
		t.Errorf("P4: 8000 inserts, each behind the one before: %d, %d ids", e, len(v.Ids))
	}
}

func TestWide(t *testing.T) {
	l := many(func(n int, last api.Id) api.Op { return put("t", 0, 0) })
	v, e := Value(api.Sequence, "x", shuffled(l, rand.New(rand.NewSource(1))))
	slices.Reverse(l)
	if e != api.OK || !slices.Equal(v.Ids, idsOf(l)) {
		t.Errorf("P4: 8000 inserts at the front: %d, %d ids", e, len(v.Ids))
	}
}

func idsOf(l []api.Update) []api.Id {
	var ids []api.Id
	for _, u := range l {
		ids = append(ids, ident(u))
	}
	return ids
}

func shuffled(l []api.Update, r *rand.Rand) []api.Update {
	l = slices.Clone(l)
	r.Shuffle(len(l), func(i, j int) { l[i], l[j] = l[j], l[i] })
	return l
}

func copied(l []api.Update) []api.Update {
	l = slices.Clone(l)
	for i := range l {
		l[i].Clock = slices.Clone(l[i].Clock)
	}
	return l
}

func TestNothingIsChanged(t *testing.T) {
	for _, c := range cases {
		before := copied(c.l)
		Value(c.kind, "x", c.l)
		if !reflect.DeepEqual(c.l, before) {
			t.Errorf("P2: %s: %+v, before that %+v", c.what, c.l, before)
		}
	}
}

// What is done to an answer, or to what was handed in, is not seen in another answer.
func TestFreshMemory(t *testing.T) {
	for _, c := range cases {
		l := copied(c.l)
		v, _ := Value(c.kind, "x", l)
		for i := range l {
			clear(l[i].Clock)
		}
		clear(l)
		if !reflect.DeepEqual(v, c.want) {
			t.Errorf("P2: %s: %+v, once what was handed in is changed", c.what, v)
		}
		clear(v.Texts)
		clear(v.Ids)
		if w, _ := Value(c.kind, "x", c.l); !reflect.DeepEqual(w, c.want) {
			t.Errorf("P2: %s: %+v, once an answer is changed", c.what, w)
		}
	}
}

func TestTextsAreCopies(t *testing.T) {
	for kind, op := range map[uint8]api.Op{api.Set: add("abc"), api.Register: write("abc"), api.Sequence: put("abc", 0, 0)} {
		v, _ := Value(kind, "x", []api.Update{at(0, op, 1, 0)})
		if len(v.Texts) != 1 || unsafe.StringData(v.Texts[0]) == unsafe.StringData(op.Text) {
			t.Errorf("P2: type %d: %q shares memory with what was handed in", kind, v.Texts)
		}
	}
}
