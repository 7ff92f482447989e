package crdt

import (
	"braid/api"
	"braid/causes"
)

// added has the texts of those adds that no remove of the same text and no
// clear is behind.
func added(l []api.Update) []string {
	removed, cleared := takenAway(l)
	var texts []string
	for _, u := range l {
		if u.Op.Kind == api.Add && !cleared.Has(causes.Id(u)) && !removed[u.Op.Text].Has(causes.Id(u)) {
			texts = append(texts, u.Op.Text)
		}
	}
	return texts
}

// takenAway has what the removes of each text knew, and what the clears did.
func takenAway(l []api.Update) (map[string]causes.Reach, causes.Reach) {
	removed := map[string]causes.Reach{}
	var cleared causes.Reach
	for _, u := range l {
		switch u.Op.Kind {
		case api.Remove:
			removed[u.Op.Text] = removed[u.Op.Text].With(u.Clock)
		case api.Clear:
			cleared = cleared.With(u.Clock)
		}
	}
	return removed, cleared
}
