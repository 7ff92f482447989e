// Package things: what a replica shows of the things that it has: see DOC.md
// (What updates come to).
//
// The updates come one by one, each once and behind all that it knew of, its
// anchor among them. So one that comes is never known of by those that came
// before it, and of these only what shows, or what others hang on, need be kept.
package things

import "braid/api"

// Things of a replica.
type Things struct {
	texts    map[thing]texts // of sets and registers
	counters map[string]int
	rows     map[string]row // of sequences
}

type thing struct {
	kind uint8
	name string
}

// New has nothing.
func New() *Things {
	return &Things{map[thing]texts{}, map[string]int{}, map[string]row{}}
}

// Take takes an update in.
func (t *Things) Take(u api.Update) {
	switch u.Op.Type {
	case api.Counter:
		t.counters[u.Op.Name] += u.Op.Amount
	case api.Sequence:
		t.rowOf(u.Op.Name).take(u)
	default:
		t.textsOf(thing{u.Op.Type, u.Op.Name}).take(u)
	}
}

// Value of a thing.
func (t *Things) Value(kind uint8, name string) api.Value {
	switch kind {
	case api.Counter:
		return api.Value{N: t.counters[name]}
	case api.Sequence:
		return t.rows[name].value()
	}
	return api.Value{Texts: t.texts[thing{kind, name}].list()}
}

// Shows tells whether the value of a sequence has this id.
func (t *Things) Shows(name string, id api.Id) bool { return t.rows[name][id].shown }

func (t *Things) rowOf(name string) row {
	if _, ok := t.rows[name]; !ok {
		t.rows[name] = row{}
	}
	return t.rows[name]
}

func (t *Things) textsOf(key thing) texts {
	if _, ok := t.texts[key]; !ok {
		t.texts[key] = texts{}
	}
	return t.texts[key]
}
