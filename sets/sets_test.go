package sets_test

import (
	"math"
	"slices"
	"strings"
	"testing"

	"stillage/api"
	"stillage/sets"
)

// samples are all texts of up to three bytes that are made of a few bytes, each of which has its bits elsewhere.
func samples() []string {
	all, last := []string{""}, []string{""}
	for range 3 {
		var next []string
		for _, s := range last {
			for _, b := range []byte{0x00, 0x01, 0x80, 0x7e, 0x82, 0xff} {
				next = append(next, s+string([]byte{b}))
			}
		}
		all, last = append(all, next...), next
	}
	return all
}

// longer are texts that have more bytes than the greatest set that Of makes.
func longer() []string {
	return []string{
		strings.Repeat("\x00", 9000),
		strings.Repeat("\x00", 9000) + "\x10",
		strings.Repeat("\xff", 9000),
		"\x05" + strings.Repeat("\x00", 9000) + "\x81\x00",
	}
}

// has says by the words of the document whether a number is in a set.
func has(s string, n int) bool {
	if n < 0 || n/8 >= len(s) {
		return false
	}
	value := []byte{1, 2, 4, 8, 16, 32, 64, 128}[n%8]
	return s[n/8]&value == value
}

// list are a set's numbers, one tried after the other.
func list(s string) []int {
	var l []int
	for n := range 8 * len(s) {
		if has(s, n) {
			l = append(l, n)
		}
	}
	return l
}

// least is a text without the bytes 0 behind it.
func least(s string) string {
	for strings.HasSuffix(s, "\x00") {
		s = s[:len(s)-1]
	}
	return s
}

// made is the least text of the numbers that are wanted, of those that a or b may have.
func made(a, b string, wanted func(inA, inB bool) bool) string {
	set := make([]byte, max(len(a), len(b)))
	for n := range 8 * len(set) {
		if wanted(has(a, n), has(b, n)) {
			set[n/8] += []byte{1, 2, 4, 8, 16, 32, 64, 128}[n%8]
		}
	}
	return least(string(set))
}

// P1.1

func TestOf(t *testing.T) {
	for _, x := range []struct {
		l    []int
		want string
	}{
		{nil, ""},
		{[]int{}, ""},
		{[]int{0}, "\x01"},
		{[]int{7}, "\x80"},
		{[]int{8}, "\x00\x01"},
		{[]int{0, 9}, "\x01\x02"},
		{[]int{9, 0}, "\x01\x02"},
		{[]int{9, 0, 9, 9, 0}, "\x01\x02"},
		{[]int{0, 1, 2, 3, 4, 5, 6, 7}, "\xff"},
		{[]int{23, 1}, "\x02\x00\x80"},
		{[]int{api.MaxNum}, strings.Repeat("\x00", 8191) + "\x80"},
		{[]int{api.MaxNum, 65528, 0}, "\x01" + strings.Repeat("\x00", 8190) + "\x81"},
	} {
		if s, e := sets.Of(x.l); s != x.want || e != api.OK {
			t.Errorf("Of(%d): %q, %d, not %q", x.l, s, e, x.want)
		}
	}
}

func TestOfEveryNumber(t *testing.T) {
	var all []int
	for n := range api.MaxNum + 1 {
		all = append(all, n)
		s, e := sets.Of([]int{n})
		if e != api.OK || len(s) != n/8+1 || !has(s, n) || least(s[:len(s)-1]) != "" {
			t.Fatalf("Of(%d): %q, %d", n, s, e)
		}
	}
	if s, e := sets.Of(all); s != strings.Repeat("\xff", 8192) || e != api.OK {
		t.Errorf("Of all: %d bytes, %d", len(s), e)
	}
}

func TestOfOutOfRange(t *testing.T) {
	for _, l := range [][]int{
		{-1},
		{api.MaxNum + 1},
		{math.MinInt},
		{math.MaxInt},
		{1 << 32},
		{-1, 3},
		{3, -8},
		{3, api.MaxNum + 1, 4},
		{0, api.MaxNum, api.MaxNum + 1},
	} {
		if s, e := sets.Of(l); s != "" || e != api.ErrSetsRange {
			t.Errorf("Of(%d): %q, %d", l, s, e)
		}
	}
}

func TestOfLeavesItsList(t *testing.T) {
	room := []int{9, 0, 9, 77, 78}
	if s, e := sets.Of(room[:3]); s != "\x01\x02" || e != api.OK {
		t.Errorf("%q, %d", s, e)
	}
	sets.Of([]int{3, -1})
	if !slices.Equal(room, []int{9, 0, 9, 77, 78}) {
		t.Errorf("the list is now %d", room)
	}
}

// P1.2

func TestListHasCount(t *testing.T) {
	for _, s := range append(samples(), longer()...) {
		want := list(s)
		if l := sets.List(s); !slices.Equal(l, want) {
			t.Fatalf("List(%q): %d, not %d", s, l, want)
		}
		if n := sets.Count(s); n != len(want) {
			t.Fatalf("Count(%q): %d, not %d", s, n, len(want))
		}
		for n := -20; n < 8*len(s)+20; n++ {
			if sets.Has(s, n) != has(s, n) {
				t.Fatalf("Has(%q, %d): %v", s, n, !has(s, n))
			}
		}
	}
}

func TestListOfTheExample(t *testing.T) {
	if l := sets.List("\x01\x02\x00"); !slices.Equal(l, []int{0, 9}) {
		t.Errorf("%d", l)
	}
	if l := sets.List(""); len(l) != 0 {
		t.Errorf("of nothing: %d", l)
	}
}

func TestListIsNewMemory(t *testing.T) {
	s := "\x0f\x01"
	l := sets.List(s)
	for i := range l {
		l[i] = -1
	}
	if again := sets.List(s); !slices.Equal(again, []int{0, 1, 2, 3, 8}) {
		t.Errorf("%d", again)
	}
}

func TestHasFarNumbers(t *testing.T) {
	for _, n := range []int{-1, -8, math.MinInt, math.MaxInt, 1 << 40, 1 << 32, -1 << 32} {
		for _, s := range []string{"", "\xff", "\xff\xff\xff\xff"} {
			if sets.Has(s, n) {
				t.Errorf("Has(%q, %d)", s, n)
			}
		}
	}
}

// P1.3

func TestAndOrMinus(t *testing.T) {
	for _, x := range []struct{ a, b, and, or, minus string }{
		{"", "", "", "", ""},
		{"\x00\x00", "\x00", "", "", ""},
		{"\x81\x02\x00", "\x80\xff\xff", "\x80\x02", "\x81\xff\xff", "\x01"},
		{"\x81\x02\x00", "", "", "\x81\x02", "\x81\x02"},
		{"", "\x81\x02\x00", "", "\x81\x02", ""},
		{"\x01\x00\x04", "\x01\x00\x04", "\x01\x00\x04", "\x01\x00\x04", ""},
		{"\x01\x00\x04", "\x01", "\x01", "\x01\x00\x04", "\x00\x00\x04"},
		{"\x03\x00\x04", "\x01\x00\x04\x00", "\x01\x00\x04", "\x03\x00\x04", "\x02"},
		{"\xf0\xff", "\x0f\xff", "\x00\xff", "\xff\xff", "\xf0"},
	} {
		if s := sets.And(x.a, x.b); s != x.and {
			t.Errorf("And(%q, %q): %q", x.a, x.b, s)
		}
		if s := sets.Or(x.a, x.b); s != x.or {
			t.Errorf("Or(%q, %q): %q", x.a, x.b, s)
		}
		if s := sets.Minus(x.a, x.b); s != x.minus {
			t.Errorf("Minus(%q, %q): %q", x.a, x.b, s)
		}
	}
}

func TestAndOrMinusByNumbers(t *testing.T) {
	check := func(a, b string) {
		if s := sets.And(a, b); s != made(a, b, func(inA, inB bool) bool { return inA && inB }) {
			t.Fatalf("And(%q, %q): %q", a, b, s)
		}
		if s := sets.Or(a, b); s != made(a, b, func(inA, inB bool) bool { return inA || inB }) {
			t.Fatalf("Or(%q, %q): %q", a, b, s)
		}
		if s := sets.Minus(a, b); s != made(a, b, func(inA, inB bool) bool { return inA && !inB }) {
			t.Fatalf("Minus(%q, %q): %q", a, b, s)
		}
	}
	for _, a := range samples() {
		for _, b := range samples() {
			check(a, b)
		}
	}
	for _, a := range longer() {
		for _, b := range append(longer(), "", "\xa5") {
			check(a, b)
			check(b, a)
		}
	}
}

// P1.4

func TestNext(t *testing.T) {
	for _, s := range append(samples(), "\x00\x00\x00\x00\x00\x40\x00\x00\x00\x01", "\xff\x00\x00\xfe\x00") {
		for from := -20; from < 8*len(s)+20; from++ {
			want, found := 0, false
			for _, n := range list(s) {
				if n >= from {
					want, found = n, true
					break
				}
			}
			if n, ok := sets.Next(s, from); n != want || ok != found {
				t.Fatalf("Next(%q, %d): %d, %v, not %d, %v", s, from, n, ok, want, found)
			}
		}
	}
}

func TestNextFromFar(t *testing.T) {
	for _, x := range []struct {
		s    string
		from int
		want int
		ok   bool
	}{
		{"\x01\x02\x00", 1, 9, true},
		{"\x01\x02\x00", math.MinInt, 0, true},
		{"\x00\x02", math.MinInt, 9, true},
		{"\xff", math.MaxInt, 0, false},
		{"\xff", 1 << 62, 0, false},
		{"\xff", 8, 0, false},
		{"", 0, 0, false},
		{"", math.MinInt, 0, false},
		{"\x00\x00", 0, 0, false},
		{strings.Repeat("\x00", 9000) + "\x10", 3, 72004, true},
	} {
		if n, ok := sets.Next(x.s, x.from); n != x.want || ok != x.ok {
			t.Errorf("Next(%q, %d): %d, %v", x.s, x.from, n, ok)
		}
	}
}

func TestGap(t *testing.T) {
	for _, s := range append(samples(), "\xff\xff\xff\xff\xfd\xff", "\xff\x00\x00\xff\xff") {
		for from := -10; from < 8*len(s)+10; from += 3 {
			for end := -10; end < 8*len(s)+12; end++ {
				want, found := 0, false
				for n := max(from, 0); n < end && !found; n++ {
					if !has(s, n) {
						want, found = n, true
					}
				}
				if n, ok := sets.Gap(s, from, end); n != want || ok != found {
					t.Fatalf("Gap(%q, %d, %d): %d, %v, not %d, %v", s, from, end, n, ok, want, found)
				}
			}
		}
	}
}

func TestGapFromFar(t *testing.T) {
	for _, x := range []struct {
		s         string
		from, end int
		want      int
		ok        bool
	}{
		{"\x01\x02\x00", 9, 12, 10, true},
		{"\x01\x02\x00", 9, 10, 0, false},
		{"\xff", 0, 8, 0, false},
		{"\xff", 0, 9, 8, true},
		{"\xff", math.MinInt, math.MaxInt, 8, true},
		{"\xff", math.MinInt, math.MinInt, 0, false},
		{"", math.MinInt, 0, 0, false},
		{"", math.MinInt, 1, 0, true},
		{"", -3, -2, 0, false},
		{"", 5, 5, 0, false},
		{"", 5, 6, 5, true},
		{"", 6, 5, 0, false},
		{"\xff", math.MaxInt, math.MaxInt, 0, false},
		{"\xff", math.MaxInt - 1, math.MaxInt, math.MaxInt - 1, true},
		{"\xff", 1 << 62, 1<<62 + 1, 1 << 62, true},
		{strings.Repeat("\xff", 9000), 0, 72000, 0, false},
		{strings.Repeat("\xff", 9000), 0, 72001, 72000, true},
		{strings.Repeat("\xff", 9000), 11, 100, 0, false},
	} {
		if n, ok := sets.Gap(x.s, x.from, x.end); n != x.want || ok != x.ok {
			t.Errorf("Gap(%q, %d, %d): %d, %v", x.s, x.from, x.end, n, ok)
		}
	}
}

// P1.5

func TestOfList(t *testing.T) {
	whole := strings.Repeat("\xff", 8192)
	for _, s := range append(samples(), whole, whole+"\x00\x00", strings.Repeat("\x00", 8192)) {
		if again, e := sets.Of(sets.List(s)); again != least(s) || e != api.OK {
			t.Fatalf("Of(List(%q)): %q, %d", s, again, e)
		}
	}
	if s, e := sets.Of(sets.List(whole + "\x01")); s != "" || e != api.ErrSetsRange {
		t.Errorf("with 65536: %d bytes, %d", len(s), e)
	}
}

func TestTurnedAbout(t *testing.T) {
	for _, a := range samples() {
		for _, b := range samples() {
			if sets.And(a, b) != sets.And(b, a) || sets.Or(a, b) != sets.Or(b, a) {
				t.Fatalf("%q, %q", a, b)
			}
		}
	}
}

func TestPutTogetherOtherwise(t *testing.T) {
	few := samples()[:43]
	for _, a := range few {
		for _, b := range few {
			for _, c := range few {
				if sets.And(sets.And(a, b), c) != sets.And(a, sets.And(b, c)) {
					t.Fatalf("And of %q, %q, %q", a, b, c)
				}
				if sets.Or(sets.Or(a, b), c) != sets.Or(a, sets.Or(b, c)) {
					t.Fatalf("Or of %q, %q, %q", a, b, c)
				}
			}
		}
	}
}

func TestParted(t *testing.T) {
	for _, a := range samples() {
		for _, b := range samples() {
			both, rest := sets.And(a, b), sets.Minus(a, b)
			if sets.Or(both, rest) != least(a) || sets.And(both, rest) != "" {
				t.Fatalf("%q by %q: %q and %q", a, b, both, rest)
			}
			others := made(a, b, func(_, inB bool) bool { return !inB })
			if rest != sets.And(a, others) {
				t.Fatalf("%q without %q: %q", a, b, rest)
			}
			if sets.Count(both)+sets.Count(sets.Or(a, b)) != sets.Count(a)+sets.Count(b) {
				t.Fatalf("counts of %q and %q", a, b)
			}
		}
	}
}
