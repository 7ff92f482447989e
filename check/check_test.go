package check

import (
	"math"
	"strings"
	"testing"

	"braid/api"
)

// kinds: all that there are, as the document lists them, with the fields that each names.
var kinds = []struct {
	typ, kind              uint8
	text, amount, anchored bool
}{
	{0, 0, true, false, false},
	{0, 1, true, false, false},
	{0, 2, false, false, false},
	{1, 0, true, false, false},
	{2, 0, false, true, false},
	{3, 0, true, false, true},
	{3, 1, false, false, true},
}

// judged: a value of one field, and whether it is in its bounds.
type judged[T any] struct {
	value T
	ok    bool
}

var names = []judged[string]{
	{"", false}, {"n", true}, {"\x00", true}, {"\xff\xfe", true}, {"eight888", true}, {"ninebytes", false},
	{strings.Repeat("n", 256), false}, {strings.Repeat("n", 257), false}, {"ääää", true}, {"äääää", false},
}

var texts = []judged[string]{
	{"", true}, {"t", true}, {"\x00", true}, {strings.Repeat("t", 20), true}, {strings.Repeat("t", 21), false},
	{strings.Repeat("t", 256), false}, {strings.Repeat("ä", 11), false},
}

var amounts = []judged[int]{
	{0, true}, {1, true}, {-1, true}, {1000, true}, {-1000, true}, {1001, false}, {-1001, false},
	{65536, false}, {-65536, false}, {math.MaxInt, false}, {math.MinInt, false},
}

var anchors = []judged[api.Id]{
	{api.Id{}, true}, {api.Id{Origin: 0, Seq: 1}, true}, {api.Id{Origin: 0, Seq: 1000}, true},
	{api.Id{Origin: 7, Seq: 1}, true}, {api.Id{Origin: 7, Seq: 1000}, true},
	{api.Id{Origin: 1, Seq: 0}, false}, {api.Id{Origin: 7, Seq: 0}, false}, {api.Id{Origin: 8, Seq: 1}, false},
	{api.Id{Origin: -1, Seq: 1}, false}, {api.Id{Origin: 0, Seq: -1}, false}, {api.Id{Origin: 0, Seq: 1001}, false},
	{api.Id{Origin: -1, Seq: 0}, false}, {api.Id{Origin: 256, Seq: 1}, false}, {api.Id{Origin: 0, Seq: 65537}, false},
	{api.Id{Origin: math.MinInt, Seq: math.MinInt}, false}, {api.Id{Origin: math.MaxInt, Seq: math.MaxInt}, false},
}

// asked tells by the list of kinds whether an operation of fields in their bounds is one.
func asked(op api.Op) bool {
	for _, k := range kinds {
		if k.typ == op.Type && k.kind == op.Kind {
			return (k.text || op.Text == "") && (k.amount || op.Amount == 0) && (k.anchored || op.Anchor == api.Id{})
		}
	}
	return false
}

func TestOpOfAllFields(t *testing.T) {
	for typ := range 256 {
		for kind := range 256 {
			for _, text := range []string{"", "t"} {
				op := api.Op{Type: uint8(typ), Kind: uint8(kind), Name: "n", Text: text}
				if got, want := Op(op), asked(op); got != want {
					t.Errorf("P3: Op(%+v) = %t", op, got)
				}
			}
		}
	}
}

func TestOpAtBounds(t *testing.T) {
	for _, k := range kinds {
		for _, name := range names {
			for _, text := range texts {
				for _, amount := range amounts {
					for _, anchor := range anchors {
						op := api.Op{Type: k.typ, Kind: k.kind, Name: name.value, Text: text.value, Amount: amount.value, Anchor: anchor.value}
						want := name.ok && text.ok && amount.ok && anchor.ok && asked(op)
						if got := Op(op); got != want {
							t.Errorf("P3: Op(%+v) = %t", op, got)
						}
					}
				}
			}
		}
	}
}

func TestName(t *testing.T) {
	for _, name := range names {
		if got := Name(name.value); got != name.ok {
			t.Errorf("P4: Name(%q) = %t", name.value, got)
		}
	}
}

func TestUpdate(t *testing.T) {
	for _, c := range []struct {
		origin int
		clock  []int
		want   bool
	}{
		{0, []int{1, 0}, true},
		{1, []int{0, 1}, true},
		{1, []int{1000, 1000}, true},
		{7, []int{0, 0, 0, 0, 0, 0, 0, 1}, true},
		{0, []int{1000, 0, 1000, 0, 1000, 0, 1000, 0}, true},
		{0, nil, false},
		{0, []int{}, false},
		{0, []int{1}, false},
		{0, []int{1, 0, 0, 0, 0, 0, 0, 0, 0}, false},
		{0, make([]int, 258), false},
		{0, []int{0, 0}, false},
		{0, []int{0, 1}, false},
		{1, []int{1, 0}, false},
		{0, []int{-1, 0}, false},
		{0, []int{1001, 0}, false},
		{0, []int{1, -1}, false},
		{0, []int{1, 1001}, false},
		{0, []int{1, 65536}, false},
		{0, []int{65537, 0}, false},
		{0, []int{1, math.MaxInt}, false},
		{0, []int{1, math.MinInt}, false},
		{2, []int{1, 1}, false},
		{-1, []int{1, 1}, false},
		{256, []int{1, 1}, false},
		{8, []int{1, 1, 1, 1, 1, 1, 1, 1}, false},
		{math.MaxInt, []int{1, 1}, false},
		{math.MinInt, []int{1, 1}, false},
	} {
		u := api.Update{Origin: c.origin, Clock: c.clock, Op: api.Op{Name: "n"}}
		if got := Update(u); got != c.want {
			t.Errorf("P3: Update(%+v) = %t", u, got)
		}
		u.Op.Name = ""
		if Update(u) {
			t.Errorf("P3: Update(%+v) with an operation that is none", u)
		}
	}
}
