package lowfirst_test

import (
	"math"
	"testing"

	"stillage/lowfirst"
)

func TestBytes(t *testing.T) {
	for _, x := range []struct {
		n, size int
		want    string
	}{
		{0, 1, "\x00"},
		{0, 0, ""},
		{5, 0, ""},
		{5, -1, ""},
		{255, 1, "\xff"},
		{256, 1, "\x00"},
		{256, 2, "\x00\x01"},
		{0x1234, 2, "\x34\x12"},
		{0x1234, 3, "\x34\x12\x00"},
		{0x123456, 2, "\x56\x34"},
		{1 << 40, 6, "\x00\x00\x00\x00\x00\x01"},
		{0x0102030405060708, 8, "\x08\x07\x06\x05\x04\x03\x02\x01"},
		{math.MaxInt, 8, "\xff\xff\xff\xff\xff\xff\xff\x7f"},
	} {
		if s := lowfirst.Bytes(x.n, x.size); s != x.want {
			t.Errorf("%x as %d bytes: %q", x.n, x.size, s)
		}
	}
}

func TestNumber(t *testing.T) {
	for s, want := range map[string]int{
		"":                                 0,
		"\x00":                             0,
		"\xff":                             255,
		"\x00\x01":                         256,
		"\x34\x12\x00":                     0x1234,
		"\xff\xff\xff\xff\xff\xff":         1<<48 - 1,
		"\x08\x07\x06\x05\x04\x03\x02\x01": 0x0102030405060708,
	} {
		if n := lowfirst.Number(s); n != want {
			t.Errorf("%q: %x", s, n)
		}
	}
}

// TestBoth: each number that has room is told as it was laid.
func TestBoth(t *testing.T) {
	for size := 1; size <= 7; size++ {
		most := 1<<(8*size) - 1
		for _, n := range []int{0, 1, 127, 128, 255, most / 3, most / 2, most - 1, most} {
			s := lowfirst.Bytes(n, size)
			if len(s) != size || lowfirst.Number(s) != n {
				t.Errorf("%x as %d bytes: %q, %x", n, size, s, lowfirst.Number(s))
			}
		}
	}
}
