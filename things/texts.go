package things

import (
	"maps"
	"slices"
	"strings"

	"braid/api"
	"braid/causes"
)

// texts: those that a set or a register shows, each with the ids of the updates
// that put it there.
type texts map[string][]api.Id

// take drops what u knew of, and puts there what it brings. An add drops the
// older adds of its text, too: who knows of it knows of them, so they would
// never show longer than it does.
func (t texts) take(u api.Update) {
	knew := causes.ReachOf(u)
	for _, text := range t.touched(u.Op) {
		t.drop(text, knew)
	}
	if u.Op.Type == api.Register || u.Op.Kind == api.Add {
		t[u.Op.Text] = append(t[u.Op.Text], causes.Id(u))
	}
}

// touched has the texts with which an operation has to do.
func (t texts) touched(op api.Op) []string {
	if op.Type == api.Register || op.Kind == api.Clear {
		return slices.Collect(maps.Keys(t))
	}
	return []string{op.Text}
}

func (t texts) drop(text string, knew causes.Reach) {
	left := slices.DeleteFunc(t[text], knew.Has)
	if len(left) == 0 {
		delete(t, text)
		return
	}
	t[text] = left
}

// list has copies, in the order of their bytes.
func (t texts) list() []string {
	l := slices.Sorted(maps.Keys(t))
	for i, text := range l {
		l[i] = strings.Clone(text)
	}
	return l
}
