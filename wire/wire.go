// Package wire: updates as bytes: see DOC.md.
package wire

import (
	"braid/api"
	"braid/check"
	"braid/crc"
)

// Encode is an update's bytes (P3).
func Encode(u api.Update) (string, api.Errno) {
	if !check.Update(u) {
		return "", api.ErrOp
	}
	b := appendUpdate(nil, u)
	return string(appendSum(b, crc.Sum(b))), api.OK
}

// Decode is the update of bytes (P3).
func Decode(s string) (api.Update, api.Errno) {
	u := readUpdate(s)
	// Encoding what was read anew asks for every bound, the sum and the
	// length at once, and leaves no second spelling of an update.
	again, e := Encode(u)
	if e != api.OK || again != s {
		return api.Update{}, api.ErrBytes
	}
	return u, api.OK
}

// appendUpdate takes what was checked before: every number fits its bytes.
func appendUpdate(b []byte, u api.Update) []byte {
	b = append(b, byte(len(u.Clock)))
	for _, n := range u.Clock {
		b = appendPair(b, n)
	}
	b = append(b, byte(u.Origin), u.Op.Type, u.Op.Kind)
	b = appendText(b, u.Op.Name)
	b = appendText(b, u.Op.Text)
	b = appendPair(b, u.Op.Amount+api.MaxAmount)
	b = append(b, byte(u.Op.Anchor.Origin))
	return appendPair(b, u.Op.Anchor.Seq)
}

func appendText(b []byte, s string) []byte {
	b = append(b, byte(len(s)))
	return append(b, s...)
}

func appendPair(b []byte, n int) []byte {
	return append(b, byte(n>>8), byte(n))
}

func appendSum(b []byte, sum uint32) []byte {
	return append(b, byte(sum>>24), byte(sum>>16), byte(sum>>8), byte(sum))
}
