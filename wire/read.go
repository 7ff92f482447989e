package wire

import (
	"strings"

	"braid/api"
)

// reader goes through bytes from the first one on. Past their end it reads
// zeros and empty texts: whether the bytes were enough is asked afterwards.
type reader struct {
	rest string
}

// readUpdate takes any bytes for an update's; it need not be one.
func readUpdate(s string) api.Update {
	r := reader{s}
	var u api.Update
	for range r.single() {
		u.Clock = append(u.Clock, r.pair())
	}
	u.Origin = r.single()
	u.Op.Type = uint8(r.single())
	u.Op.Kind = uint8(r.single())
	u.Op.Name = r.text()
	u.Op.Text = r.text()
	u.Op.Amount = r.pair() - api.MaxAmount
	u.Op.Anchor.Origin = r.single()
	u.Op.Anchor.Seq = r.pair()
	return u
}

func (r *reader) single() int {
	if r.rest == "" {
		return 0
	}
	n := int(r.rest[0])
	r.rest = r.rest[1:]
	return n
}

func (r *reader) pair() int {
	high := r.single()
	return high<<8 | r.single()
}

// text is a copy: a piece of the bytes would keep all of them alive.
func (r *reader) text() string {
	// The length is read by itself: in one expression with what is left, the
	// language would not say which of the two comes first.
	told := r.single()
	n := min(told, len(r.rest))
	s := strings.Clone(r.rest[:n])
	r.rest = r.rest[n:]
	return s
}
