package frame

import (
	"reflect"
	"runtime"
	"slices"
	"strings"
	"testing"
	"time"

	"braid/api"
	"braid/causes"
	"braid/crc"
	"braid/octets"
	"braid/wire"
)

var known = map[int]causes.Reach{0: {2, 0, 1000}, 1: {1, 2, 258}, 2: {0, 1, 0}}

var updates = []api.Update{
	{Origin: 0, Clock: []int{1, 0, 0}, Op: api.Op{Type: api.Set, Name: "s", Text: strings.Repeat("t", 20)}},
	{Origin: 2, Clock: []int{1, 0, 1}, Op: api.Op{Type: api.Counter, Name: "eight888", Amount: -1000}},
	{Origin: 0, Clock: []int{2, 0, 1}, Op: api.Op{Type: api.Sequence, Kind: api.Delete, Name: "q", Anchor: api.Id{Origin: 1, Seq: 1000}}},
}

// greatest: as many replicas and as long an update as there can be.
var greatest = api.Update{Origin: 7, Clock: []int{1, 2, 3, 4, 5, 6, 7, 1000}, Op: api.Op{Type: api.Sequence, Name: "eight888", Text: strings.Repeat("t", 20), Anchor: api.Id{Origin: 7, Seq: 999}}}

func received(f Frame) []api.Update {
	var l []api.Update
	for u := range f.Updates() {
		l = append(l, u)
	}
	return l
}

func TestPackAndOpen(t *testing.T) {
	eight := map[int]causes.Reach{}
	for i := range 8 {
		eight[i] = causes.Reach{i, 1, 2, 3, 4, 5, 6, 1000}
	}
	for _, c := range []struct {
		known map[int]causes.Reach
		l     []api.Update
	}{
		{known, updates}, {known, nil}, {known, updates[:1]}, {map[int]causes.Reach{0: {}, 1: {}}, nil}, {eight, []api.Update{greatest}},
	} {
		f, ok := Open(len(c.known), Pack(c.known, c.l))
		if !ok || !reflect.DeepEqual(f.Known, c.known) {
			t.Errorf("P7: %v comes as %v, %v", c.known, f.Known, ok)
		}
		if l := received(f); !reflect.DeepEqual(l, c.l) {
			t.Errorf("P7: %+v come as %+v", c.l, l)
		}
	}
}

func TestOneByteTurned(t *testing.T) {
	s := Pack(known, updates)
	for at := range s {
		for by := 1; by < 256; by++ {
			b := []byte(s)
			b[at] += byte(by)
			if f, ok := Open(3, string(b)); ok || !reflect.DeepEqual(f, Frame{}) {
				t.Errorf("P7: byte %d turned by %d: %+v", at, by, f)
			}
		}
	}
}

func TestNoFrame(t *testing.T) {
	s := Pack(known, updates)
	for n := range s {
		if f, ok := Open(3, s[:n]); ok || !reflect.DeepEqual(f, Frame{}) {
			t.Errorf("P1: the first %d bytes: %+v", n, f)
		}
	}
}

// Bytes with the right sum that Pack would not have made.
func TestWrongInside(t *testing.T) {
	if f, ok := Open(3, string(crc.Seal(nil))); !ok || len(received(f)) != 0 {
		t.Errorf("P1: nothing but a sum: %+v, %v", f, ok)
	}
	rows := strings.Repeat("\x00", 18)
	good, _ := wire.Encode(updates[0])
	for _, s := range []string{"\x00", "\x05ab", "\xff", good, string(octets.AppendText(nil, good[1:]))} {
		f, ok := Open(3, string(crc.Seal([]byte(rows+s))))
		if l := received(f); !ok || len(l) != 0 {
			t.Errorf("P1: the bytes %x for updates: %+v, %v", s, l, ok)
		}
		f, ok = Open(3, string(crc.Seal(append(octets.AppendText([]byte(rows), good), s...))))
		if l := received(f); !ok || !reflect.DeepEqual(l, updates[:1]) {
			t.Errorf("P1: the bytes %x behind an update: %+v, %v", s, l, ok)
		}
	}
	none := octets.AppendText(octets.AppendText([]byte(rows), "none"), good)
	if f, ok := Open(3, string(crc.Seal(none))); !ok || len(received(f)) != 0 {
		t.Errorf("P1: no update, and one behind it: %+v, %v", f, ok)
	}
}

// Updates of a mesh that has more replicas, or fewer, are none of this one, and
// what stands behind them is not taken for any, either.
func TestOtherClocks(t *testing.T) {
	rows := strings.Repeat("\x00", 18)
	good, _ := wire.Encode(updates[0])
	for _, clock := range [][]int{{1, 0}, {1, 0, 0, 0}, {1, 0, 0, 0, 0, 0, 0, 0}, {0, 0, 0, 1}} {
		u := api.Update{Origin: len(clock) - 1, Clock: slices.Clone(clock), Op: updates[0].Op}
		u.Clock[u.Origin] = 1
		other, e := wire.Encode(u)
		if e != api.OK {
			t.Fatalf("P3: Encode(%+v): %d", u, e)
		}
		b := octets.AppendText([]byte(rows), good)
		b = octets.AppendText(octets.AppendText(b, other), good)
		f, ok := Open(3, string(crc.Seal(b)))
		if l := received(f); !ok || !reflect.DeepEqual(l, updates[:1]) {
			t.Errorf("P1: the clock %v among those of three: %+v, %v", clock, l, ok)
		}
	}
}

func TestWhoSendsEnds(t *testing.T) {
	before := runtime.NumGoroutine()
	s := Pack(known, updates)
	for range 1000 {
		f, _ := Open(3, s)
		received(f)
	}
	for range 100 {
		if runtime.NumGoroutine() <= before {
			return
		}
		time.Sleep(time.Millisecond)
	}
	t.Errorf("Ways: %d are running, before that %d", runtime.NumGoroutine(), before)
}
