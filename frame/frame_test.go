package frame_test

import (
	"encoding/hex"
	"fmt"
	"math"
	"math/rand"
	"slices"
	"strings"
	"sync"
	"testing"
	"unsafe"

	"stillage/api"
	"stillage/digest"
	"stillage/frame"
)

const (
	key       = "stillage link ok"
	mostKind  = 7
	mostSeq   = 1 << 30
	mostBytes = 2000
)

// told are a number's bytes: digits to the base 128, the lowest first, all but the last one with 128 more.
func told(n int) string {
	if n < 128 {
		return string([]byte{byte(n)})
	}
	return string([]byte{byte(n%128 + 128)}) + told(n/128)
}

// padded are a number's bytes with digits 0 behind them that need not be.
func padded(n, noughts int) string {
	b := []byte(told(n))
	for range noughts {
		b[len(b)-1] |= 128
		b = append(b, 0)
	}
	return string(b)
}

// untold is the number at the beginning of some bytes, also if it has more digits than need be, and what stands behind it.
func untold(s string) (n int, rest string, ok bool) {
	for i, value := 0, 1; i < len(s) && i < 9; i, value = i+1, value*128 {
		n += int(s[i]%128) * value
		if s[i] < 128 {
			return n, s[i+1:], n >= 0
		}
	}
	return 0, "", false
}

// laid are the bytes ahead of the sum, of a frame with numbers from 0 on.
func laid(f api.Frame) string {
	return told(f.Kind) + told(f.Session) + told(f.Seq) + told(len(f.Body)) + f.Body
}

// by are bytes with their sum by a key.
func by(key, s string) string {
	u, e := digest.Sum(key, s)
	if e != api.OK {
		panic(e)
	}
	return s + u
}

// sealed are bytes with the sum of a message.
func sealed(s string) string {
	return by(key, s)
}

// isMessage tells whether a frame may be.
func isMessage(f api.Frame) bool {
	return f.Kind >= 0 && f.Kind <= mostKind &&
		f.Session >= 0 && f.Session <= mostSeq &&
		f.Seq >= 0 && f.Seq <= mostSeq &&
		len(f.Body) <= mostBytes
}

// message is the one whose bytes ahead of the sum these are.
func message(s string) (api.Frame, bool) {
	var l [4]int
	rest, ok := s, true
	for i := range l {
		if l[i], rest, ok = untold(rest); !ok {
			return api.Frame{}, false
		}
	}
	f := api.Frame{Kind: l[0], Session: l[1], Seq: l[2], Body: rest}
	// Whatever was read too generously has other bytes than these.
	if l[3] != len(rest) || !isMessage(f) || laid(f) != s {
		return api.Frame{}, false
	}
	return f, true
}

// unsealed is what Open must answer.
func unsealed(s string) (api.Frame, api.Errno) {
	if len(s) < 8 || sealed(s[:len(s)-8]) != s {
		return api.Frame{}, api.ErrFrameSum
	}
	if f, ok := message(s[:len(s)-8]); ok {
		return f, api.OK
	}
	return api.Frame{}, api.ErrFrameForm
}

// short is a text as it is shown.
func short(s string) string {
	if len(s) > 40 {
		return fmt.Sprintf("%x.. (%d bytes)", s[:40], len(s))
	}
	return fmt.Sprintf("%x", s)
}

// seals holds Seal against the words, and what is sealed against what is opened of it.
func seals(t *testing.T, f api.Frame) {
	t.Helper()
	want, wrong := "", api.ErrFrameForm
	if isMessage(f) {
		want, wrong = sealed(laid(f)), api.OK
	}
	s, e := frame.Seal(f)
	if s != want || e != wrong {
		t.Errorf("Seal(%d, %d, %d, %s): %s, %v, not %s, %v", f.Kind, f.Session, f.Seq, short(f.Body), short(s), e, short(want), wrong)
	}
	if e != api.OK {
		return
	}
	if g, e := frame.Open(s); g != f || e != api.OK {
		t.Errorf("Open(Seal(%d, %d, %d, %s)): %d, %d, %d, %s, %v", f.Kind, f.Session, f.Seq, short(f.Body), g.Kind, g.Session, g.Seq, short(g.Body), e)
	}
}

// opens holds Open against the words, and what is opened against what is sealed of it.
func opens(t *testing.T, s string) {
	t.Helper()
	want, wrong := unsealed(s)
	f, e := frame.Open(s)
	if f != want || e != wrong {
		t.Errorf("Open(%s): %d, %d, %d, %s, %v, not %v", short(s), f.Kind, f.Session, f.Seq, short(f.Body), e, wrong)
	}
	if e != api.OK {
		return
	}
	if u, e := frame.Seal(f); u != s || e != api.OK {
		t.Errorf("Seal(Open(%s)): %s, %v", short(s), short(u), e)
	}
}

// refused holds Open against an error, with nothing beside it.
func refused(t *testing.T, s string, want api.Errno) {
	t.Helper()
	if f, e := frame.Open(s); f != (api.Frame{}) || e != want {
		t.Errorf("Open(%s): %d, %d, %d, %s, %v, not %v", short(s), f.Kind, f.Session, f.Seq, short(f.Body), e, want)
	}
}

// all are bytes in which each byte comes.
func all(n int) string {
	b := make([]byte, n)
	for i := range b {
		b[i] = byte(i*7 + i/256)
	}
	return string(b)
}

// known are messages with their bytes as OpenSSL told the sums.
func known() map[api.Frame]string {
	return map[api.Frame]string{
		{}: "00000000" + "82daf3b84fa645ca",
		{Kind: 1, Session: 2, Seq: 3, Body: "ab"}:                                   "01020302" + "6162" + "aa5e4d470b387694",
		{Kind: 3, Session: 300, Seq: 5, Body: "x"}:                                  "03ac020501" + "78" + "89a0d083274fcaeb",
		{Kind: 5, Session: 127, Seq: 128, Body: "\x00\xff"}:                         "057f800102" + "00ff" + "76c7d04c1f7a5b1b",
		{Kind: 2, Session: 16383, Seq: 16384, Body: strings.Repeat("c", 127)}:       "02ff7f8080017f" + strings.Repeat("63", 127) + "21f471d309179f63",
		{Kind: 4, Session: 1 << 28, Seq: 1<<28 - 1, Body: strings.Repeat("d", 128)}: "048080808001ffffff7f8001" + strings.Repeat("64", 128) + "4744ddafb065c872",
		{Kind: 6, Session: 1<<30 - 1, Seq: 1, Body: strings.Repeat("\x00", 8)}:      "06ffffffff030108" + strings.Repeat("00", 8) + "d06d6592c823f10d",
		{Kind: 7, Session: 1 << 30, Seq: 1 << 30, Body: strings.Repeat("b", 2000)}:  "0780808080048080808004d00f" + strings.Repeat("62", 2000) + "c010cc413e2dbaf6",
	}
}

// some are messages of all kinds and sizes.
func some() []api.Frame {
	l := []api.Frame{
		{Kind: 7, Session: 0, Seq: 0, Body: "\x00"},
		{Kind: 0, Session: 1, Seq: 1 << 30, Body: all(300)},
		{Kind: 1, Session: 1 << 30, Seq: 0, Body: all(2000)},
		{Kind: 2, Session: 128, Seq: 127, Body: sealed(laid(api.Frame{Kind: 2, Session: 128, Seq: 127}))},
		{Kind: 6, Session: 5, Seq: 6, Body: key},
	}
	for f := range known() {
		l = append(l, f)
	}
	slices.SortFunc(l, func(f, g api.Frame) int { return strings.Compare(laid(f), laid(g)) })
	return l
}

// numbers are those about the limits, about which a number's bytes become one more, and those that would be others in fewer bits.
func numbers() []int {
	return []int{
		math.MinInt, math.MinInt + 1, -1 << 62, -1 << 32, -1<<32 + 3, -1 << 31, -mostSeq, -256, -128, -7, -2, -1,
		0, 1, 2, 7, 8, 127, 128, 129, 255, 256, 16383, 16384, 1<<21 - 1, 1 << 21, 1<<28 - 1, 1 << 28,
		mostSeq - 1, mostSeq, mostSeq + 1, mostSeq + 7, 1<<31 - 1, 1 << 31, 1<<32 - 1, 1 << 32, 1<<32 + 1, 1<<32 + mostSeq, 1<<62 - 1, 1 << 62, math.MaxInt - 1, math.MaxInt,
	}
}

// kinds are numbers about the kinds' limits.
func kinds() []int {
	return []int{math.MinInt, -1 << 32, -256, -8, -7, -2, -1, 0, 1, 2, 3, 4, 5, 6, 7, 8, 9, 15, 16, 127, 128, 255, 256, 256 + 7, 1<<16 + 1, 1 << 30, 1 << 32, 1<<32 + 7, 1<<62 - 1, 1 << 62, math.MaxInt}
}

// P17.1

func TestSealKnown(t *testing.T) {
	for f, want := range known() {
		if s, e := frame.Seal(f); hex.EncodeToString([]byte(s)) != want || e != api.OK {
			t.Errorf("Seal(%d, %d, %d, %s): %s, %v, not %s", f.Kind, f.Session, f.Seq, short(f.Body), short(s), e, want)
		}
	}
}

// TestSealNumbers: each kind with each number in each place.
func TestSealNumbers(t *testing.T) {
	for _, kind := range kinds() {
		for _, session := range numbers() {
			for _, seq := range numbers() {
				for _, body := range []string{"", "a"} {
					seals(t, api.Frame{Kind: kind, Session: session, Seq: seq, Body: body})
				}
			}
		}
	}
}

// TestSealBodies: each length of a body, up to those that are too long.
func TestSealBodies(t *testing.T) {
	for n := range mostBytes + 20 {
		seals(t, api.Frame{Kind: n % 8, Session: n, Seq: mostSeq - n, Body: all(n)})
		seals(t, api.Frame{Body: strings.Repeat("\x00", n)})
		seals(t, api.Frame{Kind: 8, Body: all(n)})
	}
	for _, n := range []int{2048, 4096, 16383, 16384, 65535, 65536, 65537, 65536 + 2000, 1 << 20} {
		seals(t, api.Frame{Body: all(n)})
		seals(t, api.Frame{Kind: -1, Session: -1, Seq: -1, Body: all(n)})
	}
}

// TestSealBytes: each byte in a body, alone and at both ends of it.
func TestSealBytes(t *testing.T) {
	for b := range 256 {
		for _, body := range []string{"", "a", all(125), all(1998)} {
			one := string([]byte{byte(b)})
			seals(t, api.Frame{Kind: 1, Body: one + body})
			seals(t, api.Frame{Kind: 1, Body: body + one})
		}
	}
}

func TestSealWrong(t *testing.T) {
	for _, f := range []api.Frame{
		{Kind: -1},
		{Kind: 8},
		{Kind: math.MaxInt},
		{Kind: math.MinInt},
		{Session: -1},
		{Session: mostSeq + 1},
		{Session: math.MaxInt},
		{Session: math.MinInt},
		{Seq: -1},
		{Seq: mostSeq + 1},
		{Seq: math.MaxInt},
		{Seq: math.MinInt},
		{Body: all(2001)},
		{Body: all(65537)},
		{Kind: -1, Session: mostSeq + 1, Seq: -1, Body: all(2001)},
		{Kind: 8, Session: -1, Seq: mostSeq + 1, Body: all(1 << 20)},
	} {
		if s, e := frame.Seal(f); s != "" || e != api.ErrFrameForm {
			t.Errorf("Seal(%d, %d, %d, %s): %s, %v", f.Kind, f.Session, f.Seq, short(f.Body), short(s), e)
		}
	}
}

// P17.2

func TestOpenKnown(t *testing.T) {
	for want, s := range known() {
		b, _ := hex.DecodeString(s)
		if f, e := frame.Open(string(b)); f != want || e != api.OK {
			t.Errorf("Open(%s): %d, %d, %d, %s, %v", short(string(b)), f.Kind, f.Session, f.Seq, short(f.Body), e)
		}
	}
}

// TestOpenFewBytes: fewer than a sum has, also if they are a part of a right one.
func TestOpenFewBytes(t *testing.T) {
	none := sealed("")
	for n := range 8 {
		for _, s := range []string{strings.Repeat("0", n), strings.Repeat("\x00", n), strings.Repeat("\xff", n), none[:n], none[8-n:], key[:n], all(n)} {
			refused(t, s, api.ErrFrameSum)
		}
		for _, f := range some() {
			refused(t, sealed(laid(f))[:n], api.ErrFrameSum)
		}
	}
	refused(t, none, api.ErrFrameForm)
	for _, s := range []string{"00000000", "\x00\x00\x00\x00\x00\x00\x00\x00", "\xff\xff\xff\xff\xff\xff\xff\xff", key[:8], key, "00000000" + none[:7]} {
		refused(t, s, api.ErrFrameSum)
	}
}

// TestOpenTurned: each bit turned, and each two bytes that are side by side changed about.
func TestOpenTurned(t *testing.T) {
	for _, f := range some() {
		s := sealed(laid(f))
		b := []byte(s)
		for bit := range 8 * len(b) {
			b[bit/8] ^= 1 << (bit % 8)
			refused(t, string(b), api.ErrFrameSum)
			b[bit/8] ^= 1 << (bit % 8)
		}
		for i := range len(b) - 1 {
			b[i], b[i+1] = b[i+1], b[i]
			opens(t, string(b))
			b[i], b[i+1] = b[i+1], b[i]
		}
		if string(b) != s {
			t.Fatal("the test is wrong")
		}
	}
}

// TestOpenOtherSumByte: each byte of a sum each other one.
func TestOpenOtherSumByte(t *testing.T) {
	for _, f := range some()[:6] {
		s := sealed(laid(f))
		for i := len(s) - 8; i < len(s); i++ {
			for b := range 256 {
				if byte(b) != s[i] {
					refused(t, s[:i]+string([]byte{byte(b)})+s[i+1:], api.ErrFrameSum)
				}
			}
		}
	}
}

// TestOpenCut: a message's beginnings, ends, and itself with more bytes.
func TestOpenCut(t *testing.T) {
	for _, f := range some() {
		s := sealed(laid(f))
		for i := range s {
			refused(t, s[:i], api.ErrFrameSum)
			if i > 0 {
				refused(t, s[i:], api.ErrFrameSum)
			}
			refused(t, s[:i]+s[i+1:], api.ErrFrameSum)
		}
		for _, more := range []string{"\x00", "x", "\xff", all(8), s} {
			opens(t, s+more)
			refused(t, s+more, api.ErrFrameSum)
			refused(t, more+s, api.ErrFrameSum)
		}
	}
}

// TestOpenOtherSums: those by other keys, of other bytes, or with their bytes in another order.
func TestOpenOtherSums(t *testing.T) {
	for _, f := range some() {
		s := laid(f)
		for bit := range 8 * len(key) {
			b := []byte(key)
			b[bit/8] ^= 1 << (bit % 8)
			refused(t, by(string(b), s), api.ErrFrameSum)
		}
		for _, other := range []string{"ok link stillage", "stillage link no", "Stillage link ok", strings.Repeat("\x00", 16), all(16)} {
			refused(t, by(other, s), api.ErrFrameSum)
		}
		u := []byte(sealed(s)[len(s):])
		slices.Reverse(u)
		refused(t, s+string(u), api.ErrFrameSum)
		slices.Reverse(u)
		refused(t, string(u)+s, api.ErrFrameSum)
		refused(t, s+hex.EncodeToString(u), api.ErrFrameSum)
		for _, other := range []string{"", f.Body, s + "\x00", s[1:], s[:len(s)-1], sealed(s)} {
			if other != s {
				refused(t, s+sealed(other)[len(other):], api.ErrFrameSum)
			}
		}
	}
}

// formless are bytes that are no message's, or that are one's only if they were read otherwise than the document says.
func formless() []string {
	l := []string{
		"",
		"\x00",
		"\x00\x00",
		"\x00\x00\x00",
		"\x08\x00\x00\x00",
		"\xff\x00\x00\x00",
		"\x00\x00\x00\x00\x00",
		"\x00\x00\x00\x00x",
		"\x00\x00\x00\x01",
		"\x00\x00\x00\x02x",
		"\x00\x00\x00\x01xy",
		"\x80",
		"\x00\x80",
		"\x00\x00\x80",
		"\x00\x00\x00\x80",
		"\x00\x00\x00\xd0\x0f",
	}
	for _, more := range []int{mostSeq + 1, 1 << 31, 1 << 32, 1<<32 + 1, 1<<62 - 1} {
		l = append(l, "\x00"+told(more)+"\x00\x00", "\x00\x00"+told(more)+"\x00", told(more)+"\x00\x00\x00", "\x00\x00\x00"+told(more))
	}
	for _, kind := range []int{8, 9, 127, 128, 255, 256, 263} {
		l = append(l, told(kind)+"\x00\x00\x00", told(kind)+"\x01\x02\x01x")
	}
	for _, n := range []int{2001, 2002, 2048, 4096, 65535, 65536, 65537, 1 << 20} {
		l = append(l, "\x00\x00\x00"+told(n)+all(n), "\x00\x00\x00"+told(n)+all(2000), "\x00\x00\x00"+told(2000)+all(n))
	}
	for _, n := range []int{0, 1, 2, 127, 128, 129, 1999, 2000} {
		l = append(l, "\x00\x00\x00"+told(n)+all(n+1), "\x00\x00\x00"+told(n+1)+all(n))
	}
	for noughts := 1; noughts < 12; noughts++ {
		for _, n := range []int{0, 1, 5, 127} {
			l = append(l, padded(n%8, noughts)+"\x00\x00\x00", "\x00"+padded(n, noughts)+"\x00\x00", "\x00\x00"+padded(n, noughts)+"\x00", "\x00\x00\x00"+padded(n, noughts)+all(n))
		}
	}
	endless := strings.Repeat("\xff", 100)
	for i := range 4 {
		l = append(l, "\x00\x00\x00"[:i]+endless, "\x00\x00\x00"[:i]+strings.Repeat("\xff", 8)+"\x7f"+"\x00\x00\x00", "\x00\x00\x00"[:i]+strings.Repeat("\xff", 9)+"\x01"+"\x00\x00\x00")
	}
	return l
}

func TestOpenFormless(t *testing.T) {
	for _, s := range formless() {
		opens(t, sealed(s))
		refused(t, sealed(s), api.ErrFrameForm)
	}
}

// TestOpenSumFirst: bytes that are no message's, with no right sum.
func TestOpenSumFirst(t *testing.T) {
	for _, s := range formless() {
		u := []byte(sealed(s))
		u[len(u)-1] ^= 1
		refused(t, string(u), api.ErrFrameSum)
		refused(t, s+"12345678", api.ErrFrameSum)
		refused(t, by(strings.Repeat("\x00", 16), s), api.ErrFrameSum)
	}
}

// TestOpenShort: all bytes of up to six of a few, with a right sum.
func TestOpenShort(t *testing.T) {
	few := "\x00\x01\x02\x07\x08\x7f\x80\x84\xff"
	last := []string{""}
	for range 6 {
		var next []string
		for _, s := range last {
			for i := range few {
				next = append(next, s+few[i:i+1])
			}
		}
		for _, s := range next {
			opens(t, sealed(s))
		}
		last = next
	}
}

// TestOpenOtherBytes: messages of which each byte is each other one, or is left out, or comes twice, with a right sum.
func TestOpenOtherBytes(t *testing.T) {
	for _, f := range some() {
		s := laid(f)
		for i := range min(len(s), 24) {
			for b := range 256 {
				opens(t, sealed(s[:i]+string([]byte{byte(b)})+s[i+1:]))
				opens(t, sealed(s[:i]+string([]byte{byte(b)})+s[i:]))
			}
		}
		for i := range s {
			opens(t, sealed(s[:i]))
			opens(t, sealed(s[i:]))
			opens(t, sealed(s[:i]+s[i+1:]))
		}
	}
}

// TestOpenNumbers: each number in each place, with a right sum.
func TestOpenNumbers(t *testing.T) {
	l := slices.DeleteFunc(append(numbers(), kinds()...), func(n int) bool { return n < 0 })
	for _, n := range l {
		for _, m := range l {
			opens(t, sealed(told(n)+told(m)+"\x00\x00"))
			opens(t, sealed("\x05"+told(n)+told(m)+"\x02ab"))
			opens(t, sealed("\x07\x00"+told(n)+told(m)+all(2000)))
			opens(t, sealed(told(n)+"\x01\x01"+told(m)))
		}
	}
}

// TestOpenBodies: each length of a body, with a right sum.
func TestOpenBodies(t *testing.T) {
	for n := range mostBytes + 20 {
		for _, claimed := range []int{n - 1, n, n + 1} {
			if claimed >= 0 {
				opens(t, sealed("\x03\x02\x01"+told(claimed)+all(n)))
			}
		}
	}
}

// P17.3

// byChance is a frame that may be, or nearly.
func byChance(r *rand.Rand) api.Frame {
	number := func(most int) int {
		switch r.Intn(8) {
		case 0:
			return 0
		case 1:
			return most
		case 2:
			return numbers()[r.Intn(len(numbers()))]
		case 3:
			return r.Intn(129)
		}
		return r.Intn(most + 1)
	}
	b := make([]byte, min(r.Intn(2002), r.Intn(2002)))
	r.Read(b)
	return api.Frame{Kind: number(mostKind), Session: number(mostSeq), Seq: number(mostSeq), Body: string(b)}
}

// TestByChance: there and back, and with one byte another one, as told, and with its sum laid anew.
func TestByChance(t *testing.T) {
	r := rand.New(rand.NewSource(17))
	for range 20000 {
		f := byChance(r)
		seals(t, f)
		if !isMessage(f) {
			continue
		}
		b := []byte(sealed(laid(f)))
		i, mask := r.Intn(len(b)), byte(1+r.Intn(255))
		b[i] ^= mask
		refused(t, string(b), api.ErrFrameSum)
		opens(t, sealed(string(b[:len(b)-8])))
		b = b[:r.Intn(len(b))]
		opens(t, string(b))
		opens(t, sealed(string(b)))
	}
}

// TestOneOfEach: unlike messages have unlike bytes.
func TestOneOfEach(t *testing.T) {
	of := map[string]api.Frame{}
	for kind := range 8 {
		for _, session := range []int{0, 1, 127, 128, mostSeq} {
			for _, seq := range []int{0, 1, 127, 128, mostSeq} {
				for _, body := range []string{"", "\x00", "\x01", "\x00\x00", "\x01\x00", "a", all(127), all(128), all(2000)} {
					f := api.Frame{Kind: kind, Session: session, Seq: seq, Body: body}
					s, e := frame.Seal(f)
					if g, ok := of[s]; ok || e != api.OK {
						t.Fatalf("%+v and %+v: %x, %v", f, g, s, e)
					}
					of[s] = f
				}
			}
		}
	}
	for s, f := range of {
		if g, e := frame.Open(s); g != f || e != api.OK {
			t.Fatalf("%+v, not %+v: %v", g, f, e)
		}
	}
}

// TestOtherMessagesSum: bytes that were one message's and became another one's are opened just if they have the other one's sum.
func TestOtherMessagesSum(t *testing.T) {
	l := some()
	for _, f := range l {
		for _, g := range l {
			s, u := sealed(laid(f)), sealed(laid(g))
			mixed := s[:len(s)-8] + u[len(u)-8:]
			if f == g {
				opens(t, mixed)
			} else {
				refused(t, mixed, api.ErrFrameSum)
			}
		}
	}
}

func FuzzSeal(f *testing.F) {
	for _, m := range some() {
		f.Add(m.Kind, m.Session, m.Seq, m.Body)
	}
	f.Add(-1, mostSeq+1, -5, all(2001))
	f.Fuzz(func(t *testing.T, kind, session, seq int, body string) {
		seals(t, api.Frame{Kind: kind, Session: session, Seq: seq, Body: body})
		seals(t, api.Frame{Kind: kind & 7, Session: session & (1<<30 - 1), Seq: seq & (1<<30 - 1), Body: body})
	})
}

func FuzzOpen(f *testing.F) {
	for _, m := range some() {
		f.Add(laid(m))
		f.Add(sealed(laid(m)))
	}
	for _, s := range formless() {
		if len(s) < 3000 {
			f.Add(s)
		}
	}
	f.Fuzz(func(t *testing.T, s string) {
		opens(t, s)
		opens(t, sealed(s))
	})
}

// TestExamples: those of the document.
func TestExamples(t *testing.T) {
	if s, e := frame.Seal(api.Frame{}); len(s) != 12 || s[:4] != "\x00\x00\x00\x00" || s != sealed("\x00\x00\x00\x00") || e != api.OK {
		t.Errorf("%x, %v", s, e)
	}
	for _, s := range []string{"00000000", "\x00\x00\x00\x00\x00\x00\x00\x00"} {
		refused(t, s, api.ErrFrameSum)
	}
}

// The rules that hold everywhere

// TestEnds (R1): bytes of any length are told of.
func TestEnds(t *testing.T) {
	long := strings.Repeat(all(4099), 1000)
	seals(t, api.Frame{Body: long})
	refused(t, long, api.ErrFrameSum)
	for _, s := range []string{long, "\x00\x00\x00" + told(len(long)) + long, strings.Repeat("\x00", len(long)), strings.Repeat("\x80", len(long)), strings.Repeat("\xff", len(long))} {
		refused(t, sealed(s), api.ErrFrameForm)
	}
}

// within tells whether a text stands in the memory of another one.
func within(part, whole string) bool {
	at, from := uintptr(unsafe.Pointer(unsafe.StringData(part))), uintptr(unsafe.Pointer(unsafe.StringData(whole)))
	return part != "" && from <= at && at < from+uintptr(len(whole))
}

// lent is a text whose bytes its owner changes by the answered call.
func lent(s string) (string, func()) {
	b := []byte(s)
	return unsafe.String(unsafe.SliceData(b), len(b)), func() {
		for i := range b {
			b[i] = '!'
		}
	}
}

// TestNewMemory (R4): what is answered shares no memory with what was handed in, and is the same when that has changed.
func TestNewMemory(t *testing.T) {
	for _, f := range some() {
		want := sealed(laid(f))
		s, spoil := lent(want)
		g, e := frame.Open(s)
		if within(g.Body, s) {
			t.Errorf("a body of %d bytes stands in the message", len(g.Body))
		}
		spoil()
		if g != f || e != api.OK {
			t.Errorf("behind the change of the message: %d, %d, %d, %s, %v", g.Kind, g.Session, g.Seq, short(g.Body), e)
		}
		body, spoil := lent(f.Body)
		g.Body = body
		u, e := frame.Seal(g)
		spoil()
		if u != want || e != api.OK {
			t.Errorf("behind the change of the body: %s, %v", short(u), e)
		}
	}
}

// TestAnswersAgain (R5): the same is answered again, whatever was asked between, and by whomever.
func TestAnswersAgain(t *testing.T) {
	l := some()
	var asking sync.WaitGroup
	for who := range 4 {
		asking.Go(func() {
			for i := range 200 {
				f := l[(i*(2*who+1)+who)%len(l)]
				seals(t, f)
				frame.Open(strings.Repeat("\xff", i))
				frame.Seal(api.Frame{Kind: i, Body: "other"})
				opens(t, sealed(laid(f)))
				opens(t, sealed(laid(f))[1:])
			}
		})
	}
	asking.Wait()
}
