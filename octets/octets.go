// Package octets: numbers and texts as bytes, as updates and frames lay them:
// see DOC.md (P3).
package octets

import "strings"

// AppendPair lays a number of two bytes, the highest first.
func AppendPair(b []byte, n int) []byte {
	return append(b, byte(n>>8), byte(n))
}

// AppendText lays a text of at most 255 bytes behind its length.
func AppendText(b []byte, s string) []byte {
	b = append(b, byte(len(s)))
	return append(b, s...)
}

// Reader goes through bytes from the first one on. Past their end it reads
// zeros and empty texts: whether the bytes were enough is asked afterwards.
type Reader struct {
	Rest string
}

// Single reads a number of one byte.
func (r *Reader) Single() int {
	if r.Rest == "" {
		return 0
	}
	n := int(r.Rest[0])
	r.Rest = r.Rest[1:]
	return n
}

// Pair reads a number of two bytes.
func (r *Reader) Pair() int {
	high := r.Single()
	low := r.Single()
	return high<<8 | low
}

// Text is a copy: a piece of the bytes would keep all of them alive.
func (r *Reader) Text() string {
	// The length is read by itself: in one expression with what is left, the
	// language would not say which of the two comes first.
	told := r.Single()
	n := min(told, len(r.Rest))
	s := strings.Clone(r.Rest[:n])
	r.Rest = r.Rest[n:]
	return s
}
