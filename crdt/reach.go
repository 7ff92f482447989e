package crdt

import "braid/api"

// reach: a number for each replica: how many of its updates were known. One
// stands for many clocks, so that an update is not held against each of them.
type reach [api.MaxReplicas]int

// with is what was known in r or by this clock.
func (r reach) with(clock []int) reach {
	for i, n := range clock {
		r[i] = max(r[i], n)
	}
	return r
}

func (r reach) has(u api.Update) bool {
	return r[u.Origin] >= u.Clock[u.Origin]
}
