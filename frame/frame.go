// Package frame: what one replica tells another, as bytes: what is known of
// each replica (a row of numbers of two bytes each), some updates (each behind
// its length, as package wire has it), and the CRC-32 of all of these.
package frame

import (
	"braid/api"
	"braid/causes"
	"braid/crc"
	"braid/octets"
	"braid/wire"
)

// Frame that was opened.
type Frame struct {
	Known   map[int]causes.Reach // of each replica, what it has, as far as the sender knew
	updates string
}

// Pack is a frame's bytes. All of l are updates.
func Pack(known map[int]causes.Reach, l []api.Update) string {
	var b []byte
	for i := range len(known) {
		row := known[i]
		for k := range len(known) {
			b = octets.AppendPair(b, row[k])
		}
	}
	for _, u := range l {
		s, _ := wire.Encode(u)
		b = octets.AppendText(b, s)
	}
	return string(crc.Seal(b))
}

// Open is the frame of bytes that Pack made for so many replicas. False: the
// bytes are no longer those. Where many of them were turned, the sum can fit all
// the same: so what a frame tells need not be true, nor what anybody sent.
func Open(replicas int, s string) (Frame, bool) {
	inner, ok := crc.Unseal(s)
	if !ok {
		return Frame{}, false
	}
	r := octets.Reader{Rest: inner}
	known := map[int]causes.Reach{}
	for i := range replicas {
		known[i] = readRow(&r, replicas)
	}
	return Frame{known, r.Rest}, true
}

func readRow(r *octets.Reader, replicas int) causes.Reach {
	var row causes.Reach
	for k := range replicas {
		row[k] = r.Pair()
	}
	return row
}

// Updates has the updates of the frame, in their order, up to the first bytes
// that are none of so many replicas. It is to be received from until it is
// closed: only then has the one that sends ended.
func (f Frame) Updates() <-chan api.Update {
	out := make(chan api.Update)
	go send(f.updates, len(f.Known), out)
	return out
}

func send(updates string, replicas int, out chan<- api.Update) {
	defer close(out)
	r := octets.Reader{Rest: updates}
	for r.Rest != "" {
		u, e := wire.Decode(r.Text())
		if e != api.OK || len(u.Clock) != replicas {
			return
		}
		out <- u
	}
}
