package wire_test

import (
	"fmt"
	"math"
	"math/big"
	"math/rand"
	"slices"
	"strings"
	"testing"

	"stillage/api"
	"stillage/wire"
)

const (
	greatest = 1<<62 - 1 // of the numbers that have bytes
	many     = 65536     // numbers, or bytes of a text, at most
)

// told are a number's bytes by the words of the document.
func told(n int) string {
	x, base, digit := big.NewInt(int64(n)), big.NewInt(128), new(big.Int)
	var s []byte
	for {
		x.QuoRem(x, base, digit)
		s = append(s, byte(digit.Int64()))
		if x.Sign() == 0 {
			break
		}
		s[len(s)-1] += 128
	}
	return string(s)
}

// toldAll are numbers' bytes by the words of the document.
func toldAll(l []int) string {
	var s strings.Builder
	s.WriteString(told(len(l)))
	for _, n := range l {
		s.WriteString(told(n))
	}
	return s.String()
}

// model is a reader by the words of the document.
type model struct {
	rest string
	e    api.Errno
}

func (m *model) fail(e api.Errno) int {
	m.e = e
	return 0
}

// num takes byte by byte, whole numbers of any size.
func (m *model) num(most int) int {
	if m.e != api.OK {
		return 0
	}
	n, value := new(big.Int), big.NewInt(1)
	for count := 1; ; count++ {
		if m.rest == "" {
			return m.fail(api.ErrWireEnd)
		}
		b := int64(m.rest[0])
		m.rest = m.rest[1:]
		ends := b < 128
		if count == 10 || ends && b == 0 && count != 1 {
			return m.fail(api.ErrWireForm)
		}
		n.Add(n, new(big.Int).Mul(value, big.NewInt(b%128)))
		value.Mul(value, big.NewInt(128))
		if ends {
			break
		}
	}
	if n.Cmp(big.NewInt(int64(most))) > 0 || n.Cmp(big.NewInt(greatest)) > 0 {
		return m.fail(api.ErrWireRange)
	}
	return int(n.Int64())
}

func (m *model) text(most int) string {
	size := m.num(min(most, many))
	if m.e != api.OK {
		return ""
	}
	if len(m.rest) < size {
		m.fail(api.ErrWireEnd)
		return ""
	}
	s := m.rest[:size]
	m.rest = m.rest[size:]
	return s
}

func (m *model) nums(most, each int) []int {
	count := m.num(min(most, many))
	var l []int
	for i := 0; i < count; i++ {
		n := m.num(each)
		if m.e != api.OK {
			return nil
		}
		l = append(l, n)
	}
	return l
}

func (m *model) end() api.Errno {
	if m.e == api.OK && m.rest != "" {
		return api.ErrWireEnd
	}
	return m.e
}

// numbers are those about which a number's bytes become one more, and about each power of two, up to the greatest.
func numbers() []int {
	l := []int{0, greatest, greatest - 1, 300, 65535, 65536, 65537}
	for bit := range 62 {
		for d := -1; d <= 1; d++ {
			l = append(l, 1<<bit+d)
		}
	}
	return l
}

// limits are some that may be and some that let nothing in.
func limits() []int {
	return []int{math.MinInt, -1, 0, 1, 2, 5, 127, 128, 129, 300, 65535, 65536, 65537, 1 << 40, greatest - 1, greatest, greatest + 1, math.MaxInt}
}

// pieces are all bytes up to a length that are made of a few bytes: least, last and greatest ones, with another byte behind them or not.
func pieces(most int) []string {
	all, last := []string{""}, []string{""}
	for range most {
		var next []string
		for _, s := range last {
			for _, b := range []byte{0x00, 0x01, 0x02, 0x7f, 0x80, 0x81, 0xff} {
				next = append(next, s+string([]byte{b}))
			}
		}
		all, last = append(all, next...), next
	}
	return all
}

// longs are bytes of about as many digits as the greatest number has.
func longs() []string {
	var l []string
	for n := 6; n <= 12; n++ {
		for _, b := range []string{"\x80", "\x81", "\xff"} {
			for _, end := range []string{"", "\x00", "\x01", "\x3f", "\x40", "\x7f", "\x80", "\xbf", "\xc0", "\xff", "\x00\x00", "\x01\x00", "\x80\x01", "\xff\x7f"} {
				l = append(l, strings.Repeat(b, n)+end)
			}
		}
	}
	return l
}

// one row of what a reader may be asked.
type ask struct {
	kind, a, b int
}

const (
	askNum = iota
	askText
	askNums
	askEnd
	askKinds
)

// answer is what was told, of whichever kind.
type answer struct {
	n int
	s string
	l []int
	e api.Errno
}

func (a answer) equal(b answer) bool {
	return a.n == b.n && a.s == b.s && slices.Equal(a.l, b.l) && a.e == b.e
}

func (a answer) String() string {
	return fmt.Sprintf("%d, %q, %d, %d", a.n, a.s, a.l, int(a.e))
}

// asked is what a reader tells.
func asked(r *wire.Reader, x ask) (a answer) {
	switch x.kind {
	case askNum:
		a.n, a.e = r.Num(x.a)
	case askText:
		a.s, a.e = r.Text(x.a)
	case askNums:
		a.l, a.e = r.Nums(x.a, x.b)
	default:
		a.e = r.End()
	}
	return a
}

// wanted is what the model tells.
func wanted(m *model, x ask) (a answer) {
	switch x.kind {
	case askNum:
		a.n = m.num(x.a)
	case askText:
		a.s = m.text(x.a)
	case askNums:
		a.l = m.nums(x.a, x.b)
	default:
		return answer{e: m.end()}
	}
	a.e = m.e
	return a
}

// hold asks a new reader of some bytes a row of things, and holds each answer against the model's.
func hold(t *testing.T, s string, row ...ask) {
	t.Helper()
	r, m := wire.New(s), &model{rest: s}
	for i, x := range row {
		if got, want := asked(r, x), wanted(m, x); !got.equal(want) {
			t.Fatalf("%.40x (%d bytes), %v, number %d: %v, not %v", s, len(s), row, i, got, want)
		}
	}
}

// P3.1

func TestNum(t *testing.T) {
	for _, x := range []struct {
		n    int
		want string
	}{
		{0, "\x00"},
		{1, "\x01"},
		{127, "\x7f"},
		{128, "\x80\x01"},
		{129, "\x81\x01"},
		{255, "\xff\x01"},
		{256, "\x80\x02"},
		{300, "\xac\x02"},
		{16383, "\xff\x7f"},
		{16384, "\x80\x80\x01"},
		{65536, "\x80\x80\x04"},
		{1<<56 - 1, "\xff\xff\xff\xff\xff\xff\xff\x7f"},
		{1 << 56, "\x80\x80\x80\x80\x80\x80\x80\x80\x01"},
		{1 << 61, "\x80\x80\x80\x80\x80\x80\x80\x80\x20"},
		{greatest, "\xff\xff\xff\xff\xff\xff\xff\xff\x3f"},
	} {
		if s, e := wire.Num(x.n); s != x.want || e != api.OK {
			t.Errorf("Num(%d): %x, %d, not %x", x.n, s, e, x.want)
		}
	}
}

func TestNumTold(t *testing.T) {
	l := numbers()
	for n := range 40000 {
		l = append(l, n)
	}
	for _, n := range l {
		if s, e := wire.Num(n); s != told(n) || e != api.OK {
			t.Errorf("Num(%d): %x, %d, not %x", n, s, e, told(n))
		}
	}
}

func TestNumOutOfRange(t *testing.T) {
	for _, n := range []int{-1, -2, -128, -greatest, math.MinInt, greatest + 1, greatest + 2, math.MaxInt} {
		if s, e := wire.Num(n); s != "" || e != api.ErrWireRange {
			t.Errorf("Num(%d): %x, %d", n, s, e)
		}
	}
}

func TestText(t *testing.T) {
	for _, s := range []string{"", "\x00", "\xff", "ab", "\x80\x00\xfe", "äöü", strings.Repeat("\xff", 127), strings.Repeat("\x00", 128), strings.Repeat("a", 16383), strings.Repeat("b", 16384), strings.Repeat("c", many-1), strings.Repeat("\x80", many)} {
		if u, e := wire.Text(s); u != told(len(s))+s || e != api.OK {
			t.Errorf("Text of %d bytes: %.10x, %d", len(s), u, e)
		}
	}
	if u, e := wire.Text("ab"); u != "\x02ab" || e != api.OK {
		t.Errorf("Text(ab): %x, %d", u, e)
	}
}

func TestTextOutOfRange(t *testing.T) {
	for _, size := range []int{many + 1, many + 2, 2 * many, 1 << 20} {
		if u, e := wire.Text(strings.Repeat("a", size)); u != "" || e != api.ErrWireRange {
			t.Errorf("Text of %d bytes: %d bytes, %d", size, len(u), e)
		}
	}
}

func TestNums(t *testing.T) {
	rising := make([]int, many)
	for i := range rising {
		rising[i] = i * i
	}
	for _, l := range [][]int{nil, {}, {0}, {5}, {0, 0}, {300, 5, 300}, {greatest}, {0, greatest, 1}, numbers(), rising[:127], rising[:128], rising[:129], rising[:many-1], rising, make([]int, many)} {
		if s, e := wire.Nums(l); s != toldAll(l) || e != api.OK {
			t.Errorf("Nums of %d: %.20x, %d", len(l), s, e)
		}
	}
	if s, e := wire.Nums([]int{5, 500}); s != "\x02\x05\xf4\x03" || e != api.OK {
		t.Errorf("Nums(5, 500): %x, %d", s, e)
	}
}

func TestNumsOutOfRange(t *testing.T) {
	for _, bad := range []int{-1, math.MinInt, greatest + 1, math.MaxInt} {
		for _, l := range [][]int{{bad}, {bad, 1, 2}, {1, bad, 2}, {1, 2, bad}, {bad, bad}, append(make([]int, many-1), bad)} {
			if s, e := wire.Nums(l); s != "" || e != api.ErrWireRange {
				t.Errorf("Nums of %d with %d: %.20x, %d", len(l), bad, s, e)
			}
		}
	}
	for _, size := range []int{many + 1, many + 2, 3 * many} {
		if s, e := wire.Nums(make([]int, size)); s != "" || e != api.ErrWireRange {
			t.Errorf("Nums of %d: %d bytes, %d", size, len(s), e)
		}
	}
}

// TestNumsKeepsList: neither the list nor the room behind it is another one, and what is written into it later tells nothing (R4).
func TestNumsKeepsList(t *testing.T) {
	room := []int{3, 1, 2, 77, 78}
	l := room[:3]
	s, e := wire.Nums(l)
	if e != api.OK || !slices.Equal(room, []int{3, 1, 2, 77, 78}) {
		t.Errorf("%d, %d", room, e)
	}
	l[0] = 9
	if s != "\x03\x03\x01\x02" {
		t.Errorf("%x", s)
	}
	if u, e := wire.Nums([]int{9, 1, 2}); u != "\x03\x09\x01\x02" || e != api.OK || s != "\x03\x03\x01\x02" {
		t.Errorf("%x, %d; %x", u, e, s)
	}
}

// P3.2

func TestReadNum(t *testing.T) {
	for _, x := range []struct {
		s    string
		most int
		n    int
		e    api.Errno
	}{
		{"\x00", 0, 0, api.OK},
		{"\x00\x00", 0, 0, api.OK},
		{"\xac\x02", 300, 300, api.OK},
		{"\xac\x02", 299, 0, api.ErrWireRange},
		{"\x00", -1, 0, api.ErrWireRange},
		{"\x00", math.MinInt, 0, api.ErrWireRange},
		{"", 9, 0, api.ErrWireEnd},
		{"", -1, 0, api.ErrWireEnd},
		{"\x80", 9, 0, api.ErrWireEnd},
		{"\xff\xff", 0, 0, api.ErrWireEnd},
		{"\x80\x00", 9, 0, api.ErrWireForm},
		{"\x81\x00", 9, 0, api.ErrWireForm},
		{"\x81\x00", 0, 0, api.ErrWireForm},
		{"\x81\x80\x00", 9, 0, api.ErrWireForm},
		{"\x80\x80\x01", math.MaxInt, 16384, api.OK},
		{"\xff\xff\xff\xff\xff\xff\xff\xff\x3f", greatest, greatest, api.OK},
		{"\xff\xff\xff\xff\xff\xff\xff\xff\x3f", math.MaxInt, greatest, api.OK},
		{"\xff\xff\xff\xff\xff\xff\xff\xff\x3f", greatest - 1, 0, api.ErrWireRange},
		{"\x80\x80\x80\x80\x80\x80\x80\x80\x40", greatest + 1, 0, api.ErrWireRange},
		{"\x80\x80\x80\x80\x80\x80\x80\x80\x40", math.MaxInt, 0, api.ErrWireRange},
		{"\xff\xff\xff\xff\xff\xff\xff\xff\x7f", math.MaxInt, 0, api.ErrWireRange},
		{"\xff\xff\xff\xff\xff\xff\xff\xff\x00", math.MaxInt, 0, api.ErrWireForm},
		{"\xff\xff\xff\xff\xff\xff\xff\xff\xff", math.MaxInt, 0, api.ErrWireEnd},
		{"\x80\x80\x80\x80\x80\x80\x80\x80\x80", math.MaxInt, 0, api.ErrWireEnd},
		{"\x80\x80\x80\x80\x80\x80\x80\x80\x80\x00", math.MaxInt, 0, api.ErrWireForm},
		{"\x80\x80\x80\x80\x80\x80\x80\x80\x80\x01", math.MaxInt, 0, api.ErrWireForm},
		{"\x80\x80\x80\x80\x80\x80\x80\x80\x80\x80", math.MaxInt, 0, api.ErrWireForm},
		{"\x80\x80\x80\x80\x80\x80\x80\x80\x80\x80\x80\x01", 0, 0, api.ErrWireForm},
	} {
		if n, e := wire.New(x.s).Num(x.most); n != x.n || e != x.e {
			t.Errorf("%x up to %d: %d, %d, not %d, %d", x.s, x.most, n, e, x.n, x.e)
		}
	}
}

func TestReadNumTold(t *testing.T) {
	for _, s := range append(pieces(4), longs()...) {
		for _, most := range limits() {
			hold(t, s, ask{askNum, most, 0}, ask{askNum, most, 0}, ask{kind: askEnd}, ask{askNum, math.MaxInt, 0}, ask{kind: askEnd})
		}
	}
	for _, n := range numbers() {
		for _, most := range append(limits(), n-1, n, n+1) {
			hold(t, told(n), ask{askNum, most, 0}, ask{kind: askEnd})
		}
	}
}

func TestReadText(t *testing.T) {
	full := strings.Repeat("x", many)
	for _, x := range []struct {
		s    string
		most int
		want string
		e    api.Errno
	}{
		{"\x00", 0, "", api.OK},
		{"\x02ab", 2, "ab", api.OK},
		{"\x02abc", 2, "ab", api.OK},
		{"\x02ab", math.MaxInt, "ab", api.OK},
		{"\x02ab", 1, "", api.ErrWireRange},
		{"\x02a", 1, "", api.ErrWireRange},
		{"\x02", 1, "", api.ErrWireRange},
		{"\x02a", 2, "", api.ErrWireEnd},
		{"\x02", 2, "", api.ErrWireEnd},
		{"\x01", 2, "", api.ErrWireEnd},
		{"", 2, "", api.ErrWireEnd},
		{"\x82", 2, "", api.ErrWireEnd},
		{"\x82\x00ab", 2, "", api.ErrWireForm},
		{"\x00", -1, "", api.ErrWireRange},
		{"\x00", math.MinInt, "", api.ErrWireRange},
		{"\x03\x00\xff\x80", 3, "\x00\xff\x80", api.OK},
		{told(many) + full, many, full, api.OK},
		{told(many) + full, math.MaxInt, full, api.OK},
		{told(many) + full, many - 1, "", api.ErrWireRange},
		{told(many) + full[1:], many, "", api.ErrWireEnd},
		{told(many+1) + full + "x", many + 1, "", api.ErrWireRange},
		{told(many+1) + full + "x", math.MaxInt, "", api.ErrWireRange},
		{told(greatest) + full, math.MaxInt, "", api.ErrWireRange},
	} {
		if s, e := wire.New(x.s).Text(x.most); s != x.want || e != x.e {
			t.Errorf("%.20x (%d bytes) up to %d: %.20x, %d, not %.20x, %d", x.s, len(x.s), x.most, s, e, x.want, x.e)
		}
	}
}

func TestReadTextTold(t *testing.T) {
	for _, s := range append(pieces(4), longs()...) {
		for _, most := range limits() {
			hold(t, s, ask{askText, most, 0}, ask{kind: askEnd}, ask{askText, most, 0}, ask{kind: askEnd})
		}
	}
	whole := strings.Repeat("text", 100)
	for _, size := range []int{0, 1, 126, 127, 128, 129, 300} {
		for have := range 400 {
			hold(t, told(size)+whole[:have], ask{askText, 300, 0}, ask{kind: askEnd}, ask{askText, 300, 0})
		}
	}
}

func TestReadNums(t *testing.T) {
	ones := strings.Repeat("\x01", many)
	var all []int
	for range many {
		all = append(all, 1)
	}
	for _, x := range []struct {
		s          string
		many, most int
		want       []int
		e          api.Errno
	}{
		{"\x00", 0, 0, nil, api.OK},
		{"\x00\x01", 0, -1, nil, api.OK},
		{"\x02\x05\xf4\x03", 2, 500, []int{5, 500}, api.OK},
		{"\x02\x05\xf4\x03", math.MaxInt, math.MaxInt, []int{5, 500}, api.OK},
		{"\x02\x05\xf4\x03", 1, 500, nil, api.ErrWireRange},
		{"\x02\x05\xf4\x03", 2, 499, nil, api.ErrWireRange},
		{"\x02\x05\xf4\x03", 2, 4, nil, api.ErrWireRange},
		{"\x02\x05\xf4", 2, 500, nil, api.ErrWireEnd},
		{"\x02\x05", 2, 500, nil, api.ErrWireEnd},
		{"\x02", 2, 500, nil, api.ErrWireEnd},
		{"\x02", 1, 500, nil, api.ErrWireRange},
		{"", 2, 500, nil, api.ErrWireEnd},
		{"\x82", 2, 500, nil, api.ErrWireEnd},
		{"\x82\x00\x05\x05", 2, 500, nil, api.ErrWireForm},
		{"\x02\x85\x00\x05", 2, 500, nil, api.ErrWireForm},
		{"\x03\x05\x85\x00", 3, 500, nil, api.ErrWireForm},
		{"\x03\x05\x06", 3, 5, nil, api.ErrWireRange},
		{"\x00", -1, 500, nil, api.ErrWireRange},
		{"\x01\x00", 1, -1, nil, api.ErrWireRange},
		{"\x01" + told(greatest), 1, math.MaxInt, []int{greatest}, api.OK},
		{"\x01\xff\xff\xff\xff\xff\xff\xff\xff\x7f", 1, math.MaxInt, nil, api.ErrWireRange},
		{told(many) + ones, many, 1, all, api.OK},
		{told(many) + ones, math.MaxInt, 1, all, api.OK},
		{told(many) + ones, many - 1, 1, nil, api.ErrWireRange},
		{told(many) + ones[1:], many, 1, nil, api.ErrWireEnd},
		{told(many) + ones[1:] + "\x02", many, 1, nil, api.ErrWireRange},
		{told(many+1) + ones + "\x01", many + 1, 1, nil, api.ErrWireRange},
		{told(many+1) + ones + "\x01", math.MaxInt, 1, nil, api.ErrWireRange},
		{told(greatest) + ones, math.MaxInt, 1, nil, api.ErrWireRange},
	} {
		if l, e := wire.New(x.s).Nums(x.many, x.most); !slices.Equal(l, x.want) || e != x.e {
			t.Errorf("%.20x (%d bytes), %d up to %d: %d of them, %d, not %d of them, %d", x.s, len(x.s), x.many, x.most, len(l), e, len(x.want), x.e)
		}
	}
}

func TestReadNumsTold(t *testing.T) {
	few := []int{-1, 0, 1, 2, 127, 65536, math.MaxInt}
	for _, s := range append(pieces(4), longs()...) {
		for _, count := range few {
			for _, most := range few {
				hold(t, s, ask{askNums, count, most}, ask{kind: askEnd}, ask{askNums, count, most}, ask{kind: askEnd})
			}
		}
	}
	for _, s := range longs() {
		hold(t, "\x01"+s, ask{askNums, 1, math.MaxInt}, ask{kind: askEnd})
		hold(t, "\x02\x05"+s, ask{askNums, 2, math.MaxInt}, ask{kind: askEnd})
	}
}

// TestReadNumsApart: lists of one reader, and of two readers of the same bytes, share no memory, spare room neither (R4).
func TestReadNumsApart(t *testing.T) {
	want := []int{1, 2, 3}
	s := toldAll(want)
	r, other := wire.New(s+s), wire.New(s)
	var lists [][]int
	for _, x := range []*wire.Reader{r, r, other} {
		l, e := x.Nums(3, 3)
		if e != api.OK {
			t.Fatal(e)
		}
		lists = append(lists, l)
	}
	for i, l := range lists {
		if !slices.Equal(l, want) {
			t.Errorf("list %d: %d", i, l)
		}
		spare := l[:cap(l)]
		for j := range spare {
			spare[j] = -9
		}
	}
	if l, e := wire.New(s).Nums(3, 3); !slices.Equal(l, want) || e != api.OK {
		t.Errorf("%d, %d", l, e)
	}
}

// TestReadersApart: each goes its own way over the same bytes.
func TestReadersApart(t *testing.T) {
	s := "\x01\x02\x80"
	a, b := wire.New(s), wire.New(s)
	for i, x := range []struct {
		r    *wire.Reader
		want int
		e    api.Errno
	}{{a, 1, api.OK}, {a, 2, api.OK}, {b, 1, api.OK}, {a, 0, api.ErrWireEnd}, {b, 2, api.OK}, {a, 0, api.ErrWireEnd}, {b, 0, api.ErrWireEnd}} {
		if n, e := x.r.Num(9); n != x.want || e != x.e {
			t.Errorf("%d: %d, %d", i, n, e)
		}
	}
}

// P3.3

// ended are bytes, each with what ends a reader of them, and the error.
func ended() []struct {
	s string
	x ask
	e api.Errno
} {
	return []struct {
		s string
		x ask
		e api.Errno
	}{
		{"", ask{askNum, 9, 0}, api.ErrWireEnd},
		{"\x80", ask{askNum, 9, 0}, api.ErrWireEnd},
		{"\x80\x00\x01\x01\x01", ask{askNum, 9, 0}, api.ErrWireForm},
		{"\x09\x01\x01a\x01\x01", ask{askNum, 8, 0}, api.ErrWireRange},
		{"\x01\x01\x01", ask{askNum, -1, 0}, api.ErrWireRange},
		{strings.Repeat("\x80", 9) + "\x01\x01\x01", ask{askNum, 9, 0}, api.ErrWireForm},
		{strings.Repeat("\xff", 8) + "\x7f\x01\x01", ask{askNum, math.MaxInt, 0}, api.ErrWireRange},
		{"\x03\x01\x01", ask{askText, 3, 0}, api.ErrWireEnd},
		{"\x02\x01\x01", ask{askText, 1, 0}, api.ErrWireRange},
		{"\x81\x00\x01", ask{askText, 1, 0}, api.ErrWireForm},
		{"\x03\x01\x01", ask{askNums, 3, 3}, api.ErrWireEnd},
		{"\x02\x01\x01", ask{askNums, 1, 3}, api.ErrWireRange},
		{"\x02\x01\x04\x01\x01\x01", ask{askNums, 2, 3}, api.ErrWireRange},
		{"\x02\x04\x01\x01\x01\x01", ask{askNums, 2, 3}, api.ErrWireRange},
		{"\x02\x01\x81\x00\x01\x01", ask{askNums, 2, 3}, api.ErrWireForm},
	}
}

// TestErrorEnds: whatever is asked behind an error, it is told again, beside nothing.
func TestErrorEnds(t *testing.T) {
	later := []ask{{askNum, 9, 0}, {askNum, math.MaxInt, 0}, {askNum, -1, 0}, {askText, 9, 0}, {askText, -1, 0}, {askNums, 9, 9}, {askNums, -1, -1}, {kind: askEnd}}
	for _, x := range ended() {
		for _, ahead := range []string{"", "\x05"} {
			for _, a := range later {
				for _, b := range later {
					r := wire.New(ahead + x.s)
					if ahead != "" {
						if n, e := r.Num(5); n != 5 || e != api.OK {
							t.Fatal(n, e)
						}
					}
					for i, y := range []ask{x.x, a, b, a} {
						if got := asked(r, y); !got.equal(answer{e: x.e}) {
							t.Fatalf("%x, %v, number %d of %v: %v, not %d", x.s, x.x, i, y, got, x.e)
						}
					}
				}
			}
		}
	}
}

// TestEndEndsNothing: bytes that are left are told as often as it is asked, and are read all the same.
func TestEndEndsNothing(t *testing.T) {
	r := wire.New("\x07\x02ab\x02\x05\x06")
	reads := []struct {
		x    ask
		want answer
	}{
		{ask{askNum, 7, 0}, answer{n: 7}},
		{ask{askText, 2, 0}, answer{s: "ab"}},
		{ask{askNums, 2, 6}, answer{l: []int{5, 6}}},
	}
	for _, x := range reads {
		for range 3 {
			if e := r.End(); e != api.ErrWireEnd {
				t.Errorf("ahead of %v: End %d", x.x, e)
			}
		}
		if got := asked(r, x.x); !got.equal(x.want) {
			t.Errorf("%v: %v, not %v", x.x, got, x.want)
		}
	}
	for range 3 {
		if e := r.End(); e != api.OK {
			t.Errorf("behind all: End %d", e)
		}
	}
	// A reader that is at its end is not ended: the next read finds that nothing is there.
	if n, e := r.Num(7); n != 0 || e != api.ErrWireEnd || r.End() != api.ErrWireEnd {
		t.Errorf("behind the end: %d, %d, %d", n, e, r.End())
	}
}

func TestEnd(t *testing.T) {
	for s, want := range map[string]api.Errno{"": api.OK, "\x00": api.ErrWireEnd, "\x80": api.ErrWireEnd, "\x80\x00": api.ErrWireEnd, "abc": api.ErrWireEnd} {
		if e := wire.New(s).End(); e != want {
			t.Errorf("%x: %d, not %d", s, e, want)
		}
	}
}

// P3.4

// laid are the bytes of what was read.
func laid(t *testing.T, x ask, a answer) string {
	t.Helper()
	s, e := "", api.OK
	switch x.kind {
	case askNum:
		s, e = wire.Num(a.n)
	case askText:
		s, e = wire.Text(a.s)
	case askNums:
		s, e = wire.Nums(a.l)
	}
	if e != api.OK {
		t.Fatalf("%v was read, and can't be laid: %d", a, e)
	}
	return s
}

// some is a number of any size.
func some(chance *rand.Rand) int {
	return int(chance.Int63()>>1) >> chance.Intn(62)
}

// row are some things to be laid.
func row(chance *rand.Rand) ([]ask, []answer) {
	var asks []ask
	var things []answer
	for range chance.Intn(12) {
		x, a := ask{chance.Intn(askEnd), greatest, greatest}, answer{}
		switch x.kind {
		case askNum:
			a.n = some(chance)
			x.a = a.n
		case askText:
			b := make([]byte, chance.Intn(300))
			chance.Read(b)
			a.s = string(b)
			x.a = len(b)
		case askNums:
			for range chance.Intn(200) {
				a.l = append(a.l, some(chance))
			}
			x.a = len(a.l)
		}
		asks, things = append(asks, x), append(things, a)
	}
	return asks, things
}

// TestLaidIsRead lays rows of all kinds one behind the other, and reads them.
func TestLaidIsRead(t *testing.T) {
	chance := rand.New(rand.NewSource(3))
	for range 2000 {
		asks, things := row(chance)
		all := ""
		for i, x := range asks {
			all += laid(t, x, things[i])
		}
		r := wire.New(all)
		for i, x := range asks {
			if got := asked(r, x); !got.equal(things[i]) {
				t.Fatalf("%v: %v, not %v", x, got, things[i])
			}
		}
		if e := r.End(); e != api.OK {
			t.Fatalf("%d is left of %d bytes", e, len(all))
		}
	}
}

// TestGreatestLaidIsRead: so are the greatest things that may be.
func TestGreatestLaidIsRead(t *testing.T) {
	l := make([]int, many)
	for i := range l {
		l[i] = greatest - i
	}
	text := strings.Repeat("\xfe", many)
	a, e := wire.Text(text)
	b, f := wire.Nums(l)
	if e != api.OK || f != api.OK {
		t.Fatal(e, f)
	}
	r := wire.New(a + b)
	if s, e := r.Text(many); s != text || e != api.OK {
		t.Error(len(s), e)
	}
	if m, e := r.Nums(many, greatest); !slices.Equal(m, l) || e != api.OK || r.End() != api.OK {
		t.Error(len(m), e, r.End())
	}
}

// relay reads bytes as some kind as far as they go, and holds what was read, laid again, against them.
func relay(t *testing.T, s string, next func() ask) {
	t.Helper()
	r, m, again := wire.New(s), &model{rest: s}, ""
	for {
		x := next()
		got, want := asked(r, x), wanted(m, x)
		if !got.equal(want) {
			t.Fatalf("%x, behind %x, %v: %v, not %v", s, again, x, got, want)
		}
		if got.e != api.OK {
			return
		}
		again += laid(t, x, got)
		if again != s[:len(s)-len(m.rest)] {
			t.Fatalf("%x: read as %x", s, again)
		}
		if (r.End() == api.OK) != (again == s) {
			t.Fatalf("%x: End %d behind %x", s, r.End(), again)
		}
	}
}

// TestReadIsLaid: what a reader read, laid again, are the bytes that it took.
func TestReadIsLaid(t *testing.T) {
	for _, s := range append(pieces(5), longs()...) {
		for kind := range askEnd {
			relay(t, s, func() ask { return ask{kind, math.MaxInt, math.MaxInt} })
		}
	}
	chance := rand.New(rand.NewSource(4))
	for range 20000 {
		b := make([]byte, chance.Intn(40))
		chance.Read(b)
		for i := range b {
			if chance.Intn(2) == 0 {
				b[i] %= 8
			}
		}
		relay(t, string(b), func() ask { return ask{chance.Intn(askEnd), math.MaxInt, math.MaxInt} })
	}
}

// R1, R2, R3, R5

// TestAnyRead: bytes and limits of all kinds, in any order: each answer is the model's.
func TestAnyRead(t *testing.T) {
	chance := rand.New(rand.NewSource(5))
	most := limits()
	for range 40000 {
		b := make([]byte, chance.Intn(30))
		chance.Read(b)
		for i := range b {
			if chance.Intn(3) != 0 {
				b[i] %= 4
			}
		}
		var row []ask
		for range 8 {
			row = append(row, ask{chance.Intn(askKinds), most[chance.Intn(len(most))], most[chance.Intn(len(most))]})
		}
		hold(t, string(b), row...)
	}
}

// FuzzRead asks whatever bytes say for whatever bytes say.
func FuzzRead(f *testing.F) {
	f.Add("\x02ab\x02\x05\xf4\x03\x07", "\x01\x02\x00\x03")
	f.Add("\x80\x00", "\x00\x00")
	f.Add("\xff\xff\xff\xff\xff\xff\xff\xff\x7f", "\x00\x11")
	f.Fuzz(func(t *testing.T, s, asks string) {
		most := limits()
		var row []ask
		for i := 0; i+1 < len(asks) && i < 40; i += 2 {
			row = append(row, ask{int(asks[i]) % askKinds, most[int(asks[i+1])%len(most)], most[int(asks[i+1])/16%len(most)]})
		}
		hold(t, s, row...)
	})
}
