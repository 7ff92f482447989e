package crdt

import (
	"braid/api"
	"braid/causes"
)

// written has the texts of those writes that no other one is behind.
func written(l []api.Update) []string {
	second := secondBest(l)
	var texts []string
	for _, u := range l {
		if !second.Has(causes.Id(u)) {
			texts = append(texts, u.Op.Text)
		}
	}
	return texts
}

// secondBest has, for each replica, the second greatest of the numbers that
// the clocks have there. An update's own clock reaches it; so this second
// number reaches it just if another clock does.
func secondBest(l []api.Update) causes.Reach {
	var best, second causes.Reach
	for _, u := range l {
		for i, n := range u.Clock {
			second[i] = max(second[i], min(best[i], n))
			best[i] = max(best[i], n)
		}
	}
	return second
}
