package digest_test

import (
	"encoding/hex"
	"strings"
	"testing"

	"stillage/api"
	"stillage/digest"
)

// counted are the bytes 0, 1, 2 and so on.
func counted(n int) string {
	s := make([]byte, n)
	for i := range s {
		s[i] = byte(i)
	}
	return string(s)
}

// mixed are bytes in which no eight are like the eight ahead of them.
func mixed(n int) string {
	s := make([]byte, n)
	for i := range s {
		s[i] = byte((i*i + 7*i + n) % 251)
	}
	return string(s)
}

// keys are some of the kinds of bytes that a key may have.
func keys() []string {
	return []string{
		counted(16),
		strings.Repeat("\x00", 16),
		strings.Repeat("\xff", 16),
		counted(256)[240:],
		"\x0f\x0e\x0d\x0c\x0b\x0a\x09\x08\x07\x06\x05\x04\x03\x02\x01\x00",
		"stillage volumes",
		"\x80" + strings.Repeat("\x00", 15),
		strings.Repeat("\x00", 15) + "\x80",
	}
}

// lengths are all short ones, and those about where the byte of the length goes round.
func lengths() []int {
	var l []int
	for n := range 80 {
		l = append(l, n)
	}
	for n := 240; n < 275; n++ {
		l = append(l, n)
	}
	return append(l, 503, 504, 511, 512, 513, 1000, 4095, 4096, 65536)
}

// wrong are texts that are no keys.
func wrong() []string {
	return []string{"", "k", counted(7), counted(8), counted(15), counted(17), counted(24), counted(32), strings.Repeat("ä", 16), counted(256), strings.Repeat("x", 65536)}
}

// told is the sum by the words of the document: the whole text is made words first.
func told(key, s string) string {
	word := func(s string) uint64 {
		w := uint64(0)
		for i := 7; i >= 0; i-- {
			w = w*256 + uint64(s[i])
		}
		return w
	}
	rot := func(x uint64, n int) uint64 { return x<<n | x>>(64-n) }
	k, l := word(key[:8]), word(key[8:])
	a, b, c, d := k^0x736f6d6570736575, l^0x646f72616e646f6d, k^0x6c7967656e657261, l^0x7465646279746573
	rounds := func(n int) {
		for range n {
			a = a + b
			b = rot(b, 13) ^ a
			a = rot(a, 32)
			c = c + d
			d = rot(d, 16) ^ c
			a = a + d
			d = rot(d, 21) ^ a
			c = c + b
			b = rot(b, 17) ^ c
			c = rot(c, 32)
		}
	}
	whole := s
	for len(whole)%8 != 7 {
		whole += "\x00"
	}
	whole += string([]byte{byte(len(s) % 256)})
	for i := 0; i < len(whole); i += 8 {
		m := word(whole[i : i+8])
		d ^= m
		rounds(2)
		a ^= m
	}
	c ^= 255
	rounds(4)
	sum := make([]byte, 8)
	for i, w := 0, a^b^c^d; i < 8; i, w = i+1, w/256 {
		sum[i] = byte(w % 256)
	}
	return string(sum)
}

// made is a sum that goes on, by a key that is one.
func made(t *testing.T, key string) *digest.Hash {
	t.Helper()
	h, e := digest.New(key)
	if h == nil || e != api.OK {
		t.Fatalf("New(%x): %v, %v", key, h, e)
	}
	return h
}

// P2.1

// TestSumKnown holds sums against those of SipHash-2-4 as others have built it.
func TestSumKnown(t *testing.T) {
	for n, want := range []string{
		"310e0edd47db6f72", "fd67dc93c539f874", "5a4fa9d909806c0d", "2d7efbd796666785",
		"b7877127e09427cf", "8da699cd64557618", "cee3fe586e46c9cb", "37d1018bf50002ab",
		"6224939a79f5f593", "b0e4a90bdf82009e", "f3b9dd94c5bb5d7a", "a7ad6b22462fb3f4",
		"fbe50e86bc8f1e75", "903d84c02756ea14", "eef27a8e90ca23f7", "e545be4961ca29a1",
		"db9bc2577fcc2a3f", "9447be2cf5e99a69", "9cd38d96f0b3c14b", "bd6179a71dc96dbb",
		"98eea21af25cd6be", "c7673b2eb0cbf2d0", "883ea3e395675393", "c8ce5ccd8c030ca8",
		"94af49f6c650adb8", "eab8858ade92e1bc", "f315bb5bb835d817", "adcf6b0763612e2f",
		"a5c91da7acaa4dde", "716595876650a2a6", "28ef495c53a387ad", "42c341d8fa92d832",
		"ce7cf2722f512771", "e37859f94623f3a7", "381205bb1ab0e012", "ae97a10fd434e015",
		"b4a31508beff4d31", "81396229f0907902", "4d0cf49ee5d4dcca", "5c73336a76d8bf9a",
		"d0a704536ba93e0e", "925958fcd6420cad", "a915c29bc8067318", "952b79f3bc0aa6d4",
		"f21df2e41d4535f9", "87577519048f53a9", "10a56cf5dfcd9adb", "eb75095ccd986cd0",
		"51a9cb9ecba312e6", "96afadfc2ce666c7", "72fe52975a4364ee", "5a1645b276d592a1",
		"b274cb8ebf87870a", "6f9bb4203de7b381", "eaecb2a30b22a87f", "9924a43cc1315724",
		"bd838d3aafbf8db7", "0b1a2a3265d51aea", "135079a3231ce660", "932b2846e4d70666",
		"e1915f5cb1eca46c", "f325965ca16d629f", "575ff28e60381be5", "724506eb4c328a95",
	} {
		if u, e := digest.Sum(counted(16), counted(n)); hex.EncodeToString([]byte(u)) != want || e != api.OK {
			t.Errorf("%d bytes: %x, %v, not %s", n, u, e, want)
		}
	}
	for _, x := range []struct {
		key  string
		n    int
		want string
	}{
		{"00000000000000000000000000000000", 0, "d70077739d4b921e"},
		{"00000000000000000000000000000000", 255, "edae9017fda8d2f2"},
		{"00000000000000000000000000000000", 256, "10a54208ed4b5bc9"},
		{"00000000000000000000000000000000", 65536, "2c33524cc7730993"},
		{"ffffffffffffffffffffffffffffffff", 7, "c752ac9b4c8e6393"},
		{"ffffffffffffffffffffffffffffffff", 8, "c6298b0091ee59c9"},
		{"ffffffffffffffffffffffffffffffff", 1000, "1f23caf8c3f75e8c"},
		{"f0f1f2f3f4f5f6f7f8f9fafbfcfdfeff", 257, "3a32b899e6c6780f"},
		{"f0f1f2f3f4f5f6f7f8f9fafbfcfdfeff", 263, "445c46bcec321beb"},
		{"0f0e0d0c0b0a09080706050403020100", 264, "acb3ae0622cd99b3"},
		{"0f0e0d0c0b0a09080706050403020100", 511, "68cdae8f2523e235"},
		{"7374696c6c61676520766f6c756d6573", 512, "6fc9eaf65c02bbd0"},
		{"7374696c6c61676520766f6c756d6573", 65536, "4037d5deb0763848"},
	} {
		key, _ := hex.DecodeString(x.key)
		if u, e := digest.Sum(string(key), mixed(x.n)); hex.EncodeToString([]byte(u)) != x.want || e != api.OK {
			t.Errorf("%s, %d bytes: %x, %v, not %s", x.key, x.n, u, e, x.want)
		}
	}
}

func TestSumTold(t *testing.T) {
	for _, key := range keys() {
		for _, n := range lengths() {
			for _, s := range []string{mixed(n), strings.Repeat("\x00", n), strings.Repeat("\xff", n)} {
				if u, e := digest.Sum(key, s); u != told(key, s) || e != api.OK {
					t.Errorf("Sum(%x, %d bytes): %x, %v, not %x", key, n, u, e, told(key, s))
				}
			}
		}
	}
}

// TestSumLong: a text of more bytes than any that a layer hands in.
func TestSumLong(t *testing.T) {
	s := strings.Repeat(mixed(4099), 300)
	if u, e := digest.Sum(counted(16), s); u != told(counted(16), s) || e != api.OK {
		t.Errorf("%x, %v", u, e)
	}
}

// TestSumOfWholeKey: each bit of the key and of the text has its say.
func TestSumOfWholeKey(t *testing.T) {
	key, s := counted(16), mixed(19)
	turned := func(s string, bit int) string {
		b := []byte(s)
		b[bit/8] ^= 1 << (bit % 8)
		return string(b)
	}
	plain, _ := digest.Sum(key, s)
	for bit := range 8 * len(key) {
		if u, e := digest.Sum(turned(key, bit), s); u == plain || u != told(turned(key, bit), s) || e != api.OK {
			t.Errorf("bit %d of the key: %x, %v", bit, u, e)
		}
	}
	for bit := range 8 * len(s) {
		if u, e := digest.Sum(key, turned(s, bit)); u == plain || u != told(key, turned(s, bit)) || e != api.OK {
			t.Errorf("bit %d of the text: %x, %v", bit, u, e)
		}
	}
}

func TestSumWrongKey(t *testing.T) {
	for _, key := range wrong() {
		for _, s := range []string{"", "a", mixed(8), mixed(300)} {
			if u, e := digest.Sum(key, s); u != "" || e != api.ErrDigestKey {
				t.Errorf("a key of %d bytes: %x, %v", len(key), u, e)
			}
		}
	}
}

// P2.2

func TestNewWrongKey(t *testing.T) {
	for _, key := range wrong() {
		if h, e := digest.New(key); h != nil || e != api.ErrDigestKey {
			t.Errorf("a key of %d bytes: %v, %v", len(key), h, e)
		}
	}
}

func TestNewOfNothing(t *testing.T) {
	for _, key := range keys() {
		h := made(t, key)
		for range 3 {
			if u := h.Sum(); u != told(key, "") {
				t.Errorf("by %x: %x, not %x", key, u, told(key, ""))
			}
		}
		h.Write("")
		if u := h.Sum(); u != told(key, "") {
			t.Errorf("by %x, nothing written: %x, not %x", key, u, told(key, ""))
		}
	}
}

// TestWriteGoesOn asks for the sum after each byte, more than once: the asking changes nothing.
func TestWriteGoesOn(t *testing.T) {
	for _, key := range keys() {
		h, s := made(t, key), mixed(600)
		for i := range len(s) {
			h.Write(s[i : i+1])
			for range 2 {
				if u := h.Sum(); u != told(key, s[:i+1]) {
					t.Fatalf("by %x, after %d bytes: %x", key, i+1, u)
				}
			}
		}
	}
}

// TestHashesApart: each has bytes of its own, also by the same key.
func TestHashesApart(t *testing.T) {
	g, h, k := made(t, counted(16)), made(t, counted(16)), made(t, mixed(16))
	var inG, inH, inK string
	for i := range 90 {
		s := mixed(i % 13)
		g.Write(s)
		inG += s
		h.Write(s + "h")
		inH += s + "h"
		k.Write("k" + s)
		inK += "k" + s
		if g.Sum() != told(counted(16), inG) || h.Sum() != told(counted(16), inH) || k.Sum() != told(mixed(16), inK) {
			t.Fatalf("after %d pieces", i+1)
		}
	}
}

// P2.3

func TestCutInTwo(t *testing.T) {
	key := mixed(16)
	for _, n := range []int{0, 1, 7, 8, 9, 15, 16, 17, 24, 40, 255, 256, 257, 600} {
		s := mixed(n)
		want, _ := digest.Sum(key, s)
		for cut := range n + 1 {
			h := made(t, key)
			h.Write(s[:cut])
			h.Write(s[cut:])
			if u := h.Sum(); u != want {
				t.Errorf("%d bytes, cut at %d: %x, not %x", n, cut, u, want)
			}
		}
	}
}

func TestCutInThree(t *testing.T) {
	key := counted(16)
	for n := range 34 {
		s := mixed(n)
		want, _ := digest.Sum(key, s)
		for first := range n + 1 {
			for second := first; second <= n; second++ {
				h := made(t, key)
				h.Write(s[:first])
				h.Write(s[first:second])
				h.Sum()
				h.Write(s[second:])
				if u := h.Sum(); u != want {
					t.Errorf("%d bytes, cut at %d and %d: %x, not %x", n, first, second, u, want)
				}
			}
		}
	}
}

func TestCutEvenly(t *testing.T) {
	key, s := mixed(16), mixed(5000)
	want := told(key, s)
	for _, size := range []int{1, 2, 3, 5, 7, 8, 9, 13, 16, 64, 255, 256, 257, 1300, 4999, 5000} {
		h := made(t, key)
		for rest := s; rest != ""; {
			cut := min(size, len(rest))
			h.Write(rest[:cut])
			h.Write("")
			rest = rest[cut:]
		}
		if u := h.Sum(); u != want {
			t.Errorf("pieces of %d bytes: %x, not %x", size, u, want)
		}
	}
}

// TestSumSize: a sum has eight bytes, also where they are noughts.
func TestSumSize(t *testing.T) {
	nought := false
	for n := range 2000 {
		u, e := digest.Sum(counted(16), mixed(n))
		if len(u) != 8 || e != api.OK {
			t.Errorf("%d bytes: %x, %v", n, u, e)
		}
		nought = nought || strings.HasSuffix(u, "\x00")
	}
	if !nought {
		t.Error("no sum ended with a nought: the test has too few texts")
	}
}
