// Package wire: updates as bytes: see DOC.md.
package wire

import (
	"braid/api"
	"braid/check"
	"braid/crc"
	"braid/octets"
)

// Encode is an update's bytes (P3).
func Encode(u api.Update) (string, api.Errno) {
	if !check.Update(u) {
		return "", api.ErrOp
	}
	return string(crc.Seal(layUpdate(u))), api.OK
}

// Decode is the update of bytes (P3).
func Decode(s string) (api.Update, api.Errno) {
	u := readUpdate(s)
	// Encoding what was read anew asks for every bound, the sum and the
	// length at once, and leaves no second spelling of an update.
	again, e := Encode(u)
	if e != api.OK || again != s {
		return api.Update{}, api.ErrBytes
	}
	return u, api.OK
}

// layUpdate takes what was checked before: every number fits its bytes.
func layUpdate(u api.Update) []byte {
	b := []byte{byte(len(u.Clock))}
	for _, n := range u.Clock {
		b = octets.AppendPair(b, n)
	}
	b = append(b, byte(u.Origin), u.Op.Type, u.Op.Kind)
	b = octets.AppendText(b, u.Op.Name)
	b = octets.AppendText(b, u.Op.Text)
	b = octets.AppendPair(b, u.Op.Amount+api.MaxAmount)
	b = append(b, byte(u.Op.Anchor.Origin))
	return octets.AppendPair(b, u.Op.Anchor.Seq)
}

// readUpdate takes any bytes for an update's; it need not be one.
func readUpdate(s string) api.Update {
	r := octets.Reader{Rest: s}
	var u api.Update
	for range r.Single() {
		u.Clock = append(u.Clock, r.Pair())
	}
	u.Origin = r.Single()
	u.Op.Type = uint8(r.Single())
	u.Op.Kind = uint8(r.Single())
	u.Op.Name = r.Text()
	u.Op.Text = r.Text()
	u.Op.Amount = r.Pair() - api.MaxAmount
	u.Op.Anchor.Origin = r.Single()
	u.Op.Anchor.Seq = r.Pair()
	return u
}
