// Package crc: the check sum of bytes: see DOC.md (P3).
package crc

const (
	start      = 0xFFFFFFFF
	polynomial = 0xEDB88320
	size       = 4
)

// Sum is the CRC-32 of bytes.
func Sum(b []byte) uint32 {
	sum := uint32(start)
	for _, c := range b {
		sum = shift(sum ^ uint32(c))
	}
	return ^sum
}

// Seal lays the sum behind the bytes.
func Seal(b []byte) []byte {
	sum := Sum(b)
	return append(b, byte(sum>>24), byte(sum>>16), byte(sum>>8), byte(sum))
}

// Unseal takes the sum off again, and tells whether it was that of the bytes.
func Unseal(s string) (string, bool) {
	if len(s) < size {
		return "", false
	}
	inner := s[:len(s)-size]
	if string(Seal([]byte(inner))) != s {
		return "", false
	}
	return inner, true
}

// shift moves one byte out of the sum. Bit by bit, as a table of all bytes
// would be longer than a package may keep, and what is summed up is short.
func shift(sum uint32) uint32 {
	for range 8 {
		low := sum & 1
		sum >>= 1
		if low == 1 {
			sum ^= polynomial
		}
	}
	return sum
}
