// Package check: what is an operation, and what an update: see DOC.md (Words).
// It stands by itself so that every package that is handed one judges alike.
package check

import "braid/api"

const minReplicas = 2

// fields: those of an operation that its kind names.
type fields struct {
	text, amount, anchor bool
}

// Op tells whether op is an operation.
func Op(op api.Op) bool {
	named, ok := fieldsOf(op.Type, op.Kind)
	return ok && inBounds(op) && noOther(op, named)
}

// Name tells whether s names a thing, beside its type.
func Name(s string) bool { return within(len(s), 1, api.MaxName) }

// Update tells whether u is an update.
func Update(u api.Update) bool {
	return clock(u.Clock) && within(u.Origin, 0, len(u.Clock)-1) && u.Clock[u.Origin] > 0 && Op(u.Op)
}

// fieldsOf tells which fields a kind of operation names, and whether there is such a kind.
func fieldsOf(typ, kind uint8) (fields, bool) {
	switch typ {
	case api.Set:
		return fields{text: kind != api.Clear}, kind <= api.Clear
	case api.Register:
		return fields{text: true}, kind == api.Write
	case api.Counter:
		return fields{amount: true}, kind == api.Count
	case api.Sequence:
		return fields{text: kind == api.Insert, anchor: true}, kind <= api.Delete
	}
	return fields{}, false
}

func inBounds(op api.Op) bool {
	return Name(op.Name) &&
		len(op.Text) <= api.MaxText &&
		within(op.Amount, -api.MaxAmount, api.MaxAmount) &&
		anchor(op.Anchor)
}

// anchor takes {0 0} of a delete, too: the document bounds all anchors alike,
// and leaves it to the mesh to refuse a delete of what is not shown.
func anchor(a api.Id) bool {
	return a == api.Id{} || within(a.Origin, 0, api.MaxReplicas-1) && within(a.Seq, 1, api.MaxUpdates)
}

// noOther tells whether what is not named is empty.
func noOther(op api.Op, named fields) bool {
	return (named.text || op.Text == "") &&
		(named.amount || op.Amount == 0) &&
		(named.anchor || op.Anchor == api.Id{})
}

func clock(c []int) bool {
	if !within(len(c), minReplicas, api.MaxReplicas) {
		return false
	}
	for _, n := range c {
		if !within(n, 0, api.MaxUpdates) {
			return false
		}
	}
	return true
}

func within(n, low, high int) bool { return low <= n && n <= high }
