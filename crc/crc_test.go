package crc

import (
	"hash/crc32"
	"strings"
	"testing"
)

func TestSumOfTheDocument(t *testing.T) {
	if got := Sum([]byte("123456789")); got != 3421780262 {
		t.Errorf("P3: Sum(123456789) = %d", got)
	}
}

func TestSumIsTheUsualOne(t *testing.T) {
	every := make([]byte, 256)
	for i := range every {
		every[i] = byte(i)
	}
	for _, s := range []string{"", "\x00", "\x00\x00\x00\x00", "\xff", "a", "ab", "ba", string(every), strings.Repeat("braid", 1000)} {
		if got, want := Sum([]byte(s)), crc32.ChecksumIEEE([]byte(s)); got != want {
			t.Errorf("P3: Sum of %d bytes %.20q = %d, want %d", len(s), s, got, want)
		}
	}
	for i := range every {
		if got, want := Sum(every[i:i+1]), crc32.ChecksumIEEE(every[i:i+1]); got != want {
			t.Errorf("P3: Sum of the byte %d = %d, want %d", i, got, want)
		}
	}
}

func TestSumChangesNothing(t *testing.T) {
	b := []byte("braid")
	Sum(b)
	if string(b) != "braid" {
		t.Errorf("P2: the bytes are %q now", b)
	}
}

func TestSeal(t *testing.T) {
	if got := Seal([]byte("123456789")); string(got) != "123456789\xcb\xf4\x39\x26" {
		t.Errorf("P3: Seal(123456789) = %x", got)
	}
	for _, s := range []string{"", "a", "\x00\x00\x00\x00", strings.Repeat("braid", 1000)} {
		if got, ok := Unseal(string(Seal([]byte(s)))); got != s || !ok {
			t.Errorf("P7: %.20q, sealed and unsealed: %.20q, %v", s, got, ok)
		}
	}
}

func TestUnsealOfOtherBytes(t *testing.T) {
	sealed := string(Seal([]byte("braid")))
	for at := range sealed {
		for by := 1; by < 256; by++ {
			b := []byte(sealed)
			b[at] += byte(by)
			if got, ok := Unseal(string(b)); got != "" || ok {
				t.Errorf("P7: byte %d turned by %d: %q, %v", at, by, got, ok)
			}
		}
	}
	for n := range sealed {
		if got, ok := Unseal(sealed[:n]); got != "" || ok {
			t.Errorf("P7: the first %d bytes: %q, %v", n, got, ok)
		}
	}
}
