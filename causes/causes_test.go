package causes

import (
	"slices"
	"testing"

	"braid/api"
)

func TestIdAndRank(t *testing.T) {
	for _, c := range []struct {
		u    api.Update
		want Rank
	}{
		{api.Update{Origin: 0, Clock: []int{1, 0}}, Rank{1, api.Id{Origin: 0, Seq: 1}}},
		{api.Update{Origin: 1, Clock: []int{3, 4}}, Rank{7, api.Id{Origin: 1, Seq: 4}}},
		{api.Update{Origin: 7, Clock: []int{1000, 1000, 1000, 1000, 1000, 1000, 1000, 999}}, Rank{7999, api.Id{Origin: 7, Seq: 999}}},
	} {
		if id := Id(c.u); id != c.want.Id {
			t.Errorf("Words: the id of %+v: %v", c.u, id)
		}
		if rank := RankOf(c.u); rank != c.want {
			t.Errorf("Words: the rank of %+v: %v", c.u, rank)
		}
	}
}

func TestRanksInOrder(t *testing.T) {
	l := []Rank{
		{1, api.Id{Origin: 2, Seq: 9}},
		{2, api.Id{Origin: 0, Seq: 1}},
		{2, api.Id{Origin: 0, Seq: 2}},
		{2, api.Id{Origin: 1, Seq: 1}},
		{3, api.Id{Origin: 0, Seq: 1}},
	}
	for i, a := range l {
		for k, b := range l {
			if got := a.Compare(b); (got < 0) != (i < k) || (got > 0) != (i > k) {
				t.Errorf("Words: %v and %v: %d", a, b, got)
			}
		}
	}
}

func TestReach(t *testing.T) {
	r := Reach{2, 5, 0}
	if got := r.With([]int{3, 4}); got != (Reach{3, 5, 0}) {
		t.Errorf("Words: with a clock: %v", got)
	}
	if got := r.With(nil); got != r {
		t.Errorf("Words: with no clock: %v", got)
	}
	if got := r.Within(Reach{3, 4, 7}); got != (Reach{2, 4, 0}) {
		t.Errorf("Words: within another: %v", got)
	}
	if r != (Reach{2, 5, 0}) {
		t.Errorf("P2: %v now", r)
	}
	for _, c := range []struct {
		id   api.Id
		want bool
	}{{api.Id{Origin: 0, Seq: 2}, true}, {api.Id{Origin: 0, Seq: 3}, false}, {api.Id{Origin: 1, Seq: 5}, true}, {api.Id{Origin: 1, Seq: 6}, false}, {api.Id{Origin: 2, Seq: 1}, false}, {api.Id{Origin: 7, Seq: 1}, false}} {
		if r.Has(c.id) != c.want {
			t.Errorf("Words: %v has %v: %v", r, c.id, !c.want)
		}
	}
}

func TestReachOf(t *testing.T) {
	for _, c := range []struct {
		clock []int
		want  Reach
	}{{[]int{1, 0}, Reach{1}}, {[]int{2, 0, 7}, Reach{2, 0, 7}}, {[]int{1, 2, 3, 4, 5, 6, 7, 1000}, Reach{1, 2, 3, 4, 5, 6, 7, 1000}}} {
		if got := ReachOf(api.Update{Clock: c.clock}); got != c.want {
			t.Errorf("Words: the clock %v knows %v", c.clock, got)
		}
	}
}

func TestIsNext(t *testing.T) {
	r := Reach{2, 5, 0}
	for _, c := range []struct {
		origin int
		clock  []int
		want   bool
	}{
		{0, []int{3, 5, 0}, true},
		{0, []int{3, 0, 0}, true},
		{0, []int{2, 0, 0}, false}, // it is there
		{0, []int{1, 0, 0}, false},
		{0, []int{4, 0, 0}, false}, // one before it is not
		{0, []int{3, 6, 0}, false}, // it knew of more
		{0, []int{3, 5, 1}, false},
		{1, []int{2, 6, 0}, true},
		{2, []int{0, 0, 1}, true},
		{2, []int{3, 0, 1}, false},
		{2, []int{0, 0, 2}, false},
	} {
		u := api.Update{Origin: c.origin, Clock: slices.Clone(c.clock)}
		if r.IsNext(u) != c.want {
			t.Errorf("P6: behind %v the update of %d, %v: %v", r, c.origin, c.clock, !c.want)
		}
	}
	if r != (Reach{2, 5, 0}) {
		t.Errorf("P2: %v now", r)
	}
}
