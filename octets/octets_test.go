package octets

import (
	"strings"
	"testing"
	"unsafe"
)

func TestPair(t *testing.T) {
	for _, c := range []struct {
		n int
		s string
	}{{0, "\x00\x00"}, {1, "\x00\x01"}, {255, "\x00\xff"}, {256, "\x01\x00"}, {1000, "\x03\xe8"}, {2000, "\x07\xd0"}, {65535, "\xff\xff"}} {
		if got := string(AppendPair([]byte("a"), c.n)); got != "a"+c.s {
			t.Errorf("P3: %d behind a: %x", c.n, got)
		}
		r := Reader{c.s + "b"}
		if n := r.Pair(); n != c.n || r.Rest != "b" {
			t.Errorf("P3: Pair of %x: %d, and %q is left", c.s, n, r.Rest)
		}
	}
}

func TestText(t *testing.T) {
	for _, s := range []string{"", "a", "\x00\xff", strings.Repeat("t", 255)} {
		b := string(AppendText([]byte("a"), s))
		if b != "a"+string([]byte{byte(len(s))})+s {
			t.Errorf("P3: %q behind a: %x", s, b)
		}
		r := Reader{b + "b"}
		if first := r.Single(); first != 'a' {
			t.Errorf("P3: Single of %x: %d", b, first)
		}
		if text := r.Text(); text != s || r.Rest != "b" {
			t.Errorf("P3: Text of %x: %q, and %q is left", b, text, r.Rest)
		}
	}
}

func TestPastTheEnd(t *testing.T) {
	for _, c := range []struct{ s, text, rest string }{
		{"", "", ""},
		{"\x00", "", ""},
		{"\x00ab", "", "ab"},
		{"\x01", "", ""},
		{"\xff", "", ""},
		{"\x01a", "a", ""},
		{"\x02a", "a", ""},
		{"\x05ab", "ab", ""},
		{"\x01ab", "a", "b"},
	} {
		r := Reader{c.s}
		if text := r.Text(); text != c.text {
			t.Errorf("P1: the text of %q is %q", c.s, text)
		}
		if r.Rest != c.rest {
			t.Errorf("P1: behind the text of %q is %q", c.s, r.Rest)
		}
	}
	r := Reader{"\x07"}
	if n := r.Pair(); n != 7<<8 || r.Rest != "" {
		t.Errorf("P1: Pair of one byte: %d, and %q is left", n, r.Rest)
	}
	if n := r.Pair() + r.Single(); n != 0 || r.Rest != "" {
		t.Errorf("P1: numbers past the end: %d, and %q is left", n, r.Rest)
	}
}

func TestTextIsACopy(t *testing.T) {
	s := strings.Clone("\x03abc")
	r := Reader{s}
	if text := r.Text(); unsafe.StringData(text) == unsafe.StringData(s[1:]) {
		t.Errorf("P2: %q shares memory with the bytes", text)
	}
}
