package crdt

import (
	"cmp"
	"math/rand"
	"reflect"
	"slices"
	"testing"

	"braid/api"
)

// The document's words, one by one, without regard to time: what Value is held against.

func behind(a, b api.Update) bool {
	return ident(a) != ident(b) && a.Clock[b.Origin] >= b.Clock[b.Origin]
}

func ident(u api.Update) api.Id { return api.Id{Origin: u.Origin, Seq: u.Clock[u.Origin]} }

func age(u api.Update) int {
	n := 0
	for _, c := range u.Clock {
		n += c
	}
	return n
}

func anyOf(l []api.Update, is func(u api.Update) bool) bool { return slices.ContainsFunc(l, is) }

func wordsSet(l []api.Update) (v api.Value) {
	for _, a := range l {
		gone := anyOf(l, func(u api.Update) bool {
			takes := u.Op.Kind == api.Clear || u.Op.Kind == api.Remove && u.Op.Text == a.Op.Text
			return takes && behind(u, a)
		})
		if a.Op.Kind == api.Add && !gone && !slices.Contains(v.Texts, a.Op.Text) {
			v.Texts = append(v.Texts, a.Op.Text)
		}
	}
	slices.Sort(v.Texts)
	return v
}

func wordsRegister(l []api.Update) (v api.Value) {
	for _, a := range l {
		gone := anyOf(l, func(u api.Update) bool { return behind(u, a) })
		if !gone && !slices.Contains(v.Texts, a.Op.Text) {
			v.Texts = append(v.Texts, a.Op.Text)
		}
	}
	slices.Sort(v.Texts)
	return v
}

func wordsSequence(l []api.Update) (v api.Value) {
	var inserts []api.Update
	for _, u := range l {
		if u.Op.Kind == api.Insert {
			inserts = append(inserts, u)
		}
	}
	hangsOn := func(u api.Update) api.Id {
		if anyOf(inserts, func(p api.Update) bool { return ident(p) == u.Op.Anchor && age(p) < age(u) }) {
			return u.Op.Anchor
		}
		return api.Id{}
	}
	var walk func(on api.Id)
	walk = func(on api.Id) {
		var here []api.Update
		for _, u := range inserts {
			if hangsOn(u) == on {
				here = append(here, u)
			}
		}
		slices.SortFunc(here, func(a, b api.Update) int {
			return -cmp.Or(age(a)-age(b), a.Origin-b.Origin, a.Clock[a.Origin]-b.Clock[b.Origin])
		})
		for _, u := range here {
			if !anyOf(l, func(d api.Update) bool { return d.Op.Kind == api.Delete && d.Op.Anchor == ident(u) }) {
				v.Texts = append(v.Texts, u.Op.Text)
				v.Ids = append(v.Ids, ident(u))
			}
			walk(ident(u))
		}
	}
	walk(api.Id{})
	return v
}

func words(kind uint8, name string, l []api.Update) api.Value {
	var own []api.Update
	for _, u := range l {
		if u.Op.Type == kind && u.Op.Name == name {
			own = append(own, u)
		}
	}
	switch kind {
	case api.Set:
		return wordsSet(own)
	case api.Register:
		return wordsRegister(own)
	case api.Sequence:
		return wordsSequence(own)
	}
	var v api.Value
	for _, u := range own {
		v.N += u.Op.Amount
	}
	return v
}

func anyOp(r *rand.Rand, replicas int) api.Op {
	s := string('a' + rune(r.Intn(3)))
	origin, seq := r.Intn(replicas), 1+r.Intn(5)
	op := []api.Op{add(s), add(s), add(s), remove(s), empty(), write(s), write(s), count(r.Intn(2001) - 1000), put(s, 0, 0), put(s, origin, seq), put(s, origin, seq), put(s, origin, seq), cut(origin, seq)}[r.Intn(13)]
	if r.Intn(8) == 0 {
		return elsewhere(op)
	}
	return op
}

// honest: updates with the clocks that replicas would give them.
func honest(r *rand.Rand) []api.Update {
	var l []api.Update
	replicas := 2 + r.Intn(7)
	has := [8][8]int{}
	for range r.Intn(25) {
		i, j := r.Intn(replicas), r.Intn(replicas)
		for k := range replicas {
			has[i][k] = max(has[i][k], has[j][k])
		}
		has[i][i]++
		l = append(l, at(i, anyOp(r, replicas), slices.Clone(has[i][:replicas])...))
	}
	return l
}

// wild: updates with clocks as nobody would have them.
func wild(r *rand.Rand) []api.Update {
	var l []api.Update
	replicas := 2 + r.Intn(3)
	for range r.Intn(25) {
		clock := make([]int, replicas)
		for k := range clock {
			clock[k] = r.Intn(6)
		}
		origin := r.Intn(replicas)
		clock[origin] = 1 + r.Intn(5)
		u := at(origin, anyOp(r, replicas), clock...)
		if !anyOf(l, func(o api.Update) bool { return ident(o) == ident(u) }) {
			l = append(l, u)
		}
	}
	return l
}

// Value answers as the document's words do, in whatever order the updates come (P10 follows).
func TestAgainstTheWords(t *testing.T) {
	r := rand.New(rand.NewSource(4))
	for round := range 6000 {
		l := honest(r)
		if round%2 == 1 {
			l = wild(r)
		}
		for kind := range uint8(4) {
			for _, name := range []string{"x", "y", "z"} {
				want := words(kind, name, l)
				for _, m := range [][]api.Update{l, shuffled(l, r)} {
					if v, e := Value(kind, name, m); e != api.OK || !reflect.DeepEqual(v, want) {
						t.Fatalf("P4: round %d: type %d, name %s of %+v: %+v, %d, want %+v", round, kind, name, m, v, e, want)
					}
				}
			}
		}
	}
}
