package wire

import (
	"encoding/hex"
	"hash/crc32"
	"math"
	"reflect"
	"strings"
	"testing"
	"unsafe"

	"braid/api"
)

type example struct {
	u api.Update
	s string // the bytes told in hex, without their sum
}

var text20 = strings.Repeat("t", 20)

// examples: every type and kind, and the edges that the document names.
var examples = []example{
	{api.Update{Clock: []int{1, 0}, Op: api.Op{Type: api.Counter, Name: "n", Amount: 5}}, "02 0001 0000 00 02 00 01 6e 00 03ed 00 0000"},
	{api.Update{Clock: []int{1, 0}, Op: api.Op{Type: api.Set, Kind: api.Add, Name: "s", Text: "a"}}, "02 0001 0000 00 00 00 01 73 01 61 03e8 00 0000"},
	{api.Update{Clock: []int{2, 3}, Op: api.Op{Type: api.Set, Kind: api.Remove, Name: "s", Text: "a"}}, "02 0002 0003 00 00 01 01 73 01 61 03e8 00 0000"},
	{api.Update{Clock: []int{2, 3}, Op: api.Op{Type: api.Set, Kind: api.Clear, Name: "s"}}, "02 0002 0003 00 00 02 01 73 00 03e8 00 0000"},
	{api.Update{Origin: 1, Clock: []int{2, 3}, Op: api.Op{Type: api.Register, Kind: api.Write, Name: "r", Text: "xy"}}, "02 0002 0003 01 01 00 01 72 02 7879 03e8 00 0000"},
	{api.Update{Origin: 1, Clock: []int{2, 3}, Op: api.Op{Type: api.Sequence, Kind: api.Insert, Name: "q", Text: "x"}}, "02 0002 0003 01 03 00 01 71 01 78 03e8 00 0000"},
	{api.Update{Origin: 1, Clock: []int{2, 3}, Op: api.Op{Type: api.Sequence, Kind: api.Insert, Name: "q", Text: "x", Anchor: api.Id{Origin: 0, Seq: 1}}}, "02 0002 0003 01 03 00 01 71 01 78 03e8 00 0001"},
	{api.Update{Origin: 1, Clock: []int{2, 3}, Op: api.Op{Type: api.Sequence, Kind: api.Insert, Name: "q", Anchor: api.Id{Origin: 7, Seq: 1000}}}, "02 0002 0003 01 03 00 01 71 00 03e8 07 03e8"},
	{api.Update{Origin: 1, Clock: []int{2, 3}, Op: api.Op{Type: api.Sequence, Kind: api.Delete, Name: "q", Anchor: api.Id{Origin: 1, Seq: 258}}}, "02 0002 0003 01 03 01 01 71 00 03e8 01 0102"},
	{api.Update{Origin: 1, Clock: []int{2, 3}, Op: api.Op{Type: api.Sequence, Kind: api.Delete, Name: "q"}}, "02 0002 0003 01 03 01 01 71 00 03e8 00 0000"},
	{api.Update{Clock: []int{1, 0}, Op: api.Op{Type: api.Counter, Name: "n", Amount: 1000}}, "02 0001 0000 00 02 00 01 6e 00 07d0 00 0000"},
	{api.Update{Clock: []int{1, 0}, Op: api.Op{Type: api.Counter, Name: "n", Amount: -1000}}, "02 0001 0000 00 02 00 01 6e 00 0000 00 0000"},
	{api.Update{Clock: []int{1, 0}, Op: api.Op{Type: api.Counter, Name: "n"}}, "02 0001 0000 00 02 00 01 6e 00 03e8 00 0000"},
	{api.Update{Clock: []int{1000, 1000}, Op: api.Op{Type: api.Register, Name: "\x00"}}, "02 03e8 03e8 00 01 00 01 00 00 03e8 00 0000"},
	{api.Update{Origin: 7, Clock: []int{0, 1, 255, 256, 257, 999, 1000, 1}, Op: api.Op{Type: api.Register, Name: "eight888", Text: text20}}, "08 0000 0001 00ff 0100 0101 03e7 03e8 0001 07 01 00 08 6569676874383838 14 " + strings.Repeat("74", 20) + " 03e8 00 0000"},
	{api.Update{Origin: 2, Clock: []int{0, 0, 1}, Op: api.Op{Type: api.Set, Name: "\xff\xfe", Text: "\x00\xc3\x28"}}, "03 0000 0000 0001 02 00 00 02 fffe 03 00c328 03e8 00 0000"},
}

func unhex(t *testing.T, s string) []byte {
	t.Helper()
	b, err := hex.DecodeString(strings.ReplaceAll(s, " ", ""))
	if err != nil {
		t.Fatal(err)
	}
	return b
}

// signed: bytes with their sum behind them, by the library's CRC-32.
func signed(b []byte) string {
	c := crc32.ChecksumIEEE(b)
	return string(b) + string([]byte{byte(c >> 24), byte(c >> 16), byte(c >> 8), byte(c)})
}

func refused(t *testing.T, s string) {
	t.Helper()
	if u, e := Decode(s); e != api.ErrBytes || !reflect.DeepEqual(u, api.Update{}) {
		t.Errorf("P3: Decode(%.80x) = %+v, %d", s, u, e)
	}
}

func TestEncode(t *testing.T) {
	for _, c := range examples {
		want := signed(unhex(t, c.s))
		if s, e := Encode(c.u); s != want || e != api.OK {
			t.Errorf("P3: Encode(%+v) = %x, %d, want %x", c.u, s, e, want)
		}
	}
}

func TestDecode(t *testing.T) {
	for _, c := range examples {
		s := signed(unhex(t, c.s))
		if u, e := Decode(s); !reflect.DeepEqual(u, c.u) || e != api.OK {
			t.Errorf("P3: Decode(%x) = %+v, %d, want %+v", s, u, e, c.u)
		}
	}
}

// wrong: what makes no update out of one.
var wrong = map[string]func(*api.Update){
	"clock nil":            func(u *api.Update) { u.Clock = nil },
	"clock empty":          func(u *api.Update) { u.Clock = []int{} },
	"clock of 1":           func(u *api.Update) { u.Clock = []int{1} },
	"clock of 9":           func(u *api.Update) { u.Clock = []int{1, 0, 0, 0, 0, 0, 0, 0, 0} },
	"clock of 258":         func(u *api.Update) { u.Clock = append([]int{1}, make([]int, 257)...) },
	"clock below 0":        func(u *api.Update) { u.Clock = []int{1, -1} },
	"clock above 1000":     func(u *api.Update) { u.Clock = []int{1, 1001} },
	"clock wraps":          func(u *api.Update) { u.Clock = []int{65537, 0} },
	"clock least":          func(u *api.Update) { u.Clock = []int{math.MinInt, 0} },
	"clock greatest":       func(u *api.Update) { u.Clock = []int{1, math.MaxInt} },
	"no seq":               func(u *api.Update) { u.Clock = []int{0, 1} },
	"origin below 0":       func(u *api.Update) { u.Origin = -1 },
	"origin above":         func(u *api.Update) { u.Origin = 2 },
	"origin wraps":         func(u *api.Update) { u.Origin = 256 },
	"origin least":         func(u *api.Update) { u.Origin = math.MinInt },
	"origin greatest":      func(u *api.Update) { u.Origin = math.MaxInt },
	"type 4":               func(u *api.Update) { u.Op.Type = 4 },
	"type 255":             func(u *api.Update) { u.Op.Type = 255 },
	"set kind 3":           func(u *api.Update) { u.Op.Kind = 3 },
	"register kind 1":      func(u *api.Update) { u.Op = api.Op{Type: api.Register, Kind: 1, Name: "r"} },
	"counter kind 1":       func(u *api.Update) { u.Op = api.Op{Type: api.Counter, Kind: 1, Name: "n"} },
	"sequence kind 2":      func(u *api.Update) { u.Op = api.Op{Type: api.Sequence, Kind: 2, Name: "q"} },
	"no name":              func(u *api.Update) { u.Op.Name = "" },
	"name of 9":            func(u *api.Update) { u.Op.Name = "ninebytes" },
	"name of 257":          func(u *api.Update) { u.Op.Name = strings.Repeat("n", 257) },
	"text of 21":           func(u *api.Update) { u.Op.Text = strings.Repeat("t", 21) },
	"text of 256":          func(u *api.Update) { u.Op.Text = strings.Repeat("t", 256) },
	"text of a million":    func(u *api.Update) { u.Op.Text = strings.Repeat("t", 1000000) },
	"clear with text":      func(u *api.Update) { u.Op.Kind = api.Clear },
	"count with text":      func(u *api.Update) { u.Op = api.Op{Type: api.Counter, Name: "n", Text: "t"} },
	"delete with text":     func(u *api.Update) { u.Op = api.Op{Type: api.Sequence, Kind: api.Delete, Name: "q", Text: "t"} },
	"add with amount":      func(u *api.Update) { u.Op.Amount = 1 },
	"write with amount":    func(u *api.Update) { u.Op = api.Op{Type: api.Register, Name: "r", Amount: -1} },
	"insert with amount":   func(u *api.Update) { u.Op = api.Op{Type: api.Sequence, Name: "q", Amount: 1} },
	"amount above 1000":    func(u *api.Update) { u.Op = api.Op{Type: api.Counter, Name: "n", Amount: 1001} },
	"amount below -1000":   func(u *api.Update) { u.Op = api.Op{Type: api.Counter, Name: "n", Amount: -1001} },
	"amount wraps":         func(u *api.Update) { u.Op = api.Op{Type: api.Counter, Name: "n", Amount: 65536} },
	"amount least":         func(u *api.Update) { u.Op = api.Op{Type: api.Counter, Name: "n", Amount: math.MinInt} },
	"amount greatest":      func(u *api.Update) { u.Op = api.Op{Type: api.Counter, Name: "n", Amount: math.MaxInt} },
	"add with anchor":      func(u *api.Update) { u.Op.Anchor = api.Id{Origin: 1, Seq: 1} },
	"write with anchor":    func(u *api.Update) { u.Op = api.Op{Type: api.Register, Name: "r", Anchor: api.Id{Seq: 1}} },
	"count with anchor":    func(u *api.Update) { u.Op = api.Op{Type: api.Counter, Name: "n", Anchor: api.Id{Seq: 1}} },
	"anchor's origin -1":   func(u *api.Update) { u.Op = insert(-1, 1) },
	"anchor's origin 8":    func(u *api.Update) { u.Op = insert(8, 1) },
	"anchor's origin 256":  func(u *api.Update) { u.Op = insert(256, 1) },
	"anchor's seq 0":       func(u *api.Update) { u.Op = insert(1, 0) },
	"anchor's seq -1":      func(u *api.Update) { u.Op = insert(0, -1) },
	"anchor's seq 1001":    func(u *api.Update) { u.Op = insert(0, 1001) },
	"anchor's seq 65537":   func(u *api.Update) { u.Op = insert(0, 65537) },
	"anchor of the least":  func(u *api.Update) { u.Op = insert(math.MinInt, math.MinInt) },
	"anchor of the utmost": func(u *api.Update) { u.Op = insert(math.MaxInt, math.MaxInt) },
}

func insert(origin, seq int) api.Op {
	return api.Op{Type: api.Sequence, Kind: api.Insert, Name: "q", Anchor: api.Id{Origin: origin, Seq: seq}}
}

func TestEncodeOfNoUpdate(t *testing.T) {
	for name, spoil := range wrong {
		u := api.Update{Clock: []int{1, 0}, Op: api.Op{Name: "s", Text: "a"}}
		spoil(&u)
		if s, e := Encode(u); s != "" || e != api.ErrOp {
			t.Errorf("P3: %s: Encode = %.80x, %d", name, s, e)
		}
	}
	if s, e := Encode(api.Update{}); s != "" || e != api.ErrOp {
		t.Errorf("P3: Encode of nothing = %x, %d", s, e)
	}
}

func TestDecodeOfOneByteChanged(t *testing.T) {
	for _, c := range examples {
		s := signed(unhex(t, c.s))
		for i := range len(s) {
			for by := 1; by < 256; by++ {
				b := []byte(s)
				b[i] += byte(by)
				refused(t, string(b))
			}
		}
	}
}

func TestDecodeOfOtherLengths(t *testing.T) {
	for _, c := range examples {
		b := unhex(t, c.s)
		s := signed(b)
		for i := range len(s) {
			refused(t, s[:i])
			refused(t, s[i+1:])
		}
		for i := range len(b) {
			refused(t, signed(b[:i]))
		}
		refused(t, string(b))
		for _, more := range []string{"\x00", "a", "\x00\x00\x00\x00", s, strings.Repeat("x", 1000000)} {
			refused(t, s+more)
			refused(t, more+s)
			refused(t, signed([]byte(string(b)+more)))
		}
	}
}

func TestDecodeOfNoUpdate(t *testing.T) {
	for _, s := range []string{"", "a", "abc", "\x00\x00\x00\x00", "\xff\xff\xff\xff", strings.Repeat("\xff", 1000), strings.Repeat("\x02", 1000000)} {
		refused(t, s)
		refused(t, signed([]byte(s)))
	}
	for _, s := range []string{
		"00 00 02 00 01 6e 00 03ed 00 0000",
		"01 0001 00 02 00 01 6e 00 03ed 00 0000",
		"09 0001 0000 0000 0000 0000 0000 0000 0000 0000 00 02 00 01 6e 00 03ed 00 0000",
		"02 0000 0000 00 02 00 01 6e 00 03ed 00 0000",
		"02 0001 03e9 00 02 00 01 6e 00 03ed 00 0000",
		"02 0001 0000 01 02 00 01 6e 00 03ed 00 0000",
		"02 0001 0000 02 02 00 01 6e 00 03ed 00 0000",
		"02 0001 0000 ff 02 00 01 6e 00 03ed 00 0000",
		"02 0001 0000 00 04 00 01 6e 00 03e8 00 0000",
		"02 0001 0000 00 02 01 01 6e 00 03e8 00 0000",
		"02 0001 0000 00 00 03 01 6e 00 03e8 00 0000",
		"02 0001 0000 00 03 02 01 6e 00 03e8 00 0000",
		"02 0001 0000 00 02 00 00 00 03ed 00 0000",
		"02 0001 0000 00 02 00 09 6e6e6e6e6e6e6e6e6e 00 03ed 00 0000",
		"02 0001 0000 00 01 00 01 6e 15 " + strings.Repeat("74", 21) + " 03e8 00 0000",
		"02 0001 0000 00 00 02 01 6e 01 61 03e8 00 0000",
		"02 0001 0000 00 02 00 01 6e 00 07d1 00 0000",
		"02 0001 0000 00 01 00 01 6e 00 0000 00 0000",
		"02 0001 0000 00 01 00 01 6e 00 03e8 00 0001",
		"02 0001 0000 00 03 00 01 6e 00 03e8 01 0000",
		"02 0001 0000 00 03 00 01 6e 00 03e8 00 03e9",
		"02 0001 0000 00 03 00 01 6e 00 03e8 08 0001",
		"02 0001 0000 00 02 00 ff",
		"02 0001 0000 00 02 00 01 6e ff",
	} {
		refused(t, signed(unhex(t, s)))
	}
}

// Bytes that end within a text, or right behind its length, with and without a sum.
func TestDecodeOfTextsThatEnd(t *testing.T) {
	for _, s := range []string{
		"00 00 00 00 01",
		"00 00 00 00 ff",
		"00 00 00 00 05 6162",
		"00 00 00 00 01 6e 01",
		"00 00 00 00 01 6e 07 78797a",
		"02 0001 0000 00 02 00 01",
		"02 0001 0000 00 02 00 08 6e6e6e6e6e6e6e",
		"02 0001 0000 00 01 00 01 6e 01",
		"02 0001 0000 00 01 00 01 6e 14 7474",
	} {
		refused(t, string(unhex(t, s)))
		refused(t, signed(unhex(t, s)))
	}
}

// TestDecodeUndoesEncode changes bytes below a sum that is right: what comes
// out is no update, or just the one that these bytes are.
func TestDecodeUndoesEncode(t *testing.T) {
	for _, c := range examples {
		b := unhex(t, c.s)
		for i := range b {
			for by := range 256 {
				b[i]++
				s := signed(b)
				u, e := Decode(s)
				if e != api.OK {
					refused(t, s)
					continue
				}
				if again, e := Encode(u); again != s || e != api.OK {
					t.Errorf("P3: Decode(%x) = %+v, of which Encode is %x, %d (by %d)", s, u, again, e, by)
				}
			}
		}
	}
}

func TestEncodeChangesNothing(t *testing.T) {
	room := []int{9, 1, 2, 3, 9}
	u := api.Update{Origin: 1, Clock: room[1:4], Op: api.Op{Name: "s", Text: "a"}}
	want := api.Update{Origin: 1, Clock: []int{1, 2, 3}, Op: u.Op}
	first, _ := Encode(u)
	if !reflect.DeepEqual(u, want) || room[0] != 9 || room[4] != 9 {
		t.Errorf("P2: Encode left %+v of %+v, in %v", u, want, room)
	}
	u.Clock[2] = 4
	if second, _ := Encode(want); second != first {
		t.Errorf("P2: Encode(%+v) = %x, and before %x", want, second, first)
	}
	if changed, _ := Encode(u); changed == first {
		t.Errorf("P2: Encode(%+v) = %x, as of another clock", u, changed)
	}
	u.Clock = []int{-1, 2, 3}
	Encode(u)
	if u.Clock[0] != -1 {
		t.Errorf("P2: Encode with an error left %+v", u)
	}
}

func TestDecodeIsFresh(t *testing.T) {
	for _, c := range examples {
		s := signed(unhex(t, c.s))
		a, _ := Decode(s)
		b, _ := Decode(s)
		for i := range a.Clock {
			a.Clock[i] = -1
		}
		_ = append(a.Clock[:cap(a.Clock)], -1)
		if !reflect.DeepEqual(b, c.u) {
			t.Errorf("P2: Decode(%x) is %+v now, want %+v", s, b, c.u)
		}
		if again, e := Decode(s); !reflect.DeepEqual(again, c.u) || e != api.OK {
			t.Errorf("P2: Decode(%x) = %+v, %d the second time", s, again, e)
		}
		if lies(b.Op.Name, s) || lies(b.Op.Text, s) {
			t.Errorf("P2: a text of Decode(%x) is a piece of it", s)
		}
	}
}

// lies tells whether a text lies in the memory of another one.
func lies(piece, whole string) bool {
	if piece == "" {
		return false
	}
	at, start := uintptr(unsafe.Pointer(unsafe.StringData(piece))), uintptr(unsafe.Pointer(unsafe.StringData(whole)))
	return start <= at && at < start+uintptr(len(whole))
}

func FuzzDecode(f *testing.F) {
	for _, c := range examples {
		s, _ := Encode(c.u)
		f.Add([]byte(s[:len(s)-4]))
	}
	f.Fuzz(func(t *testing.T, b []byte) {
		s := signed(b)
		u, e := Decode(s)
		if e != api.OK {
			refused(t, s)
			return
		}
		if again, e := Encode(u); again != s || e != api.OK {
			t.Errorf("P3: Decode(%x) = %+v, of which Encode is %x, %d", s, u, again, e)
		}
	})
}
