// Package crc: the check sum of bytes: see DOC.md (P3).
package crc

const (
	start      = 0xFFFFFFFF
	polynomial = 0xEDB88320
)

// Sum is the CRC-32 of bytes.
func Sum(b []byte) uint32 {
	sum := uint32(start)
	for _, c := range b {
		sum = shift(sum ^ uint32(c))
	}
	return ^sum
}

// shift moves one byte out of the sum. Bit by bit, as a table of all bytes
// would be longer than a package may keep, and what is summed up is short.
func shift(sum uint32) uint32 {
	for range 8 {
		low := sum & 1
		sum >>= 1
		if low == 1 {
			sum ^= polynomial
		}
	}
	return sum
}
