package crdt

import (
	"slices"
	"strings"

	"braid/api"
	"braid/causes"
)

// insert: one of a sequence, and what its place hangs on.
type insert struct {
	rank   causes.Rank
	anchor api.Id
	text   string
}

// row is the value of a sequence.
func row(l []api.Update) api.Value {
	inserts, deleted := insertsAndDeletes(l)
	next := chain(inserts)
	var v api.Value
	for id := next[api.Id{}]; id != (api.Id{}); id = next[id] {
		if _, gone := deleted[id]; !gone {
			v.Texts = append(v.Texts, strings.Clone(inserts[id].text))
			v.Ids = append(v.Ids, id)
		}
	}
	return v
}

func insertsAndDeletes(l []api.Update) (map[api.Id]insert, map[api.Id]struct{}) {
	inserts := map[api.Id]insert{}
	deleted := map[api.Id]struct{}{}
	for _, u := range l {
		if u.Op.Kind == api.Delete {
			deleted[u.Op.Anchor] = struct{}{}
			continue
		}
		inserts[causes.Id(u)] = insert{causes.RankOf(u), u.Op.Anchor, u.Op.Text}
	}
	return inserts, deleted
}

// chain has the tree as a ring: for each insert the one that stands next, from
// {0 0}, the root, back to it. The inserts come in by age: what one hangs on is
// there before it, and right behind that it is ahead of all that hang there
// already, as it must be. So no tree is walked, however deep it is.
func chain(inserts map[api.Id]insert) map[api.Id]api.Id {
	next := map[api.Id]api.Id{}
	for _, x := range byAge(inserts) {
		on := hangsOn(x, inserts)
		next[x.rank.Id] = next[on]
		next[on] = x.rank.Id
	}
	return next
}

// byAge has the least first.
func byAge(inserts map[api.Id]insert) []insert {
	var l []insert
	for _, x := range inserts {
		l = append(l, x)
	}
	slices.SortFunc(l, func(a, b insert) int { return a.rank.Compare(b.rank) })
	return l
}

// hangsOn is the id of the insert on which x hangs, or {0 0}: the root.
func hangsOn(x insert, inserts map[api.Id]insert) api.Id {
	if on, ok := inserts[x.anchor]; ok && on.rank.Age < x.rank.Age {
		return x.anchor
	}
	return api.Id{}
}
