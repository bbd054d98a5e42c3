package tables_test

import (
	"fmt"
	"math"
	"math/rand"
	"slices"
	"strings"
	"testing"

	"stillage/api"
	"stillage/tables"
)

const (
	greatest = 1<<62 - 1 // of the numbers that have bytes
	maxMany  = 4096
)

// told are a number's bytes: digits to the base 128, the lowest first, all but the last one with 128 more.
func told(n int) string {
	if n < 128 {
		return string([]byte{byte(n)})
	}
	return string([]byte{byte(n%128 + 128)}) + told(n/128)
}

// untold is the number at the beginning of some bytes, also if it has more digits than need be, and what stands behind it.
func untold(s string) (n int, rest string, ok bool) {
	for i, value := 0, 1; i < len(s) && i < 9; i, value = i+1, value*128 {
		n += int(s[i]%128) * value
		if s[i] < 128 {
			return n, s[i+1:], n <= greatest
		}
	}
	return 0, "", false
}

// row is a thing as it is laid: numbers and texts.
type row []any

// bytes are a row's.
func (r row) bytes() string {
	s := ""
	for _, x := range r {
		switch x := x.(type) {
		case int:
			s += told(x)
		case string:
			s += told(len(x)) + x
		}
	}
	return s
}

// with is a row with another field.
func (r row) with(i int, x any) row {
	r = slices.Clone(r)
	r[i] = x
	return r
}

// laid are the bytes of rows.
func laid(l []row) string {
	var s strings.Builder
	s.WriteString(told(len(l)))
	for _, r := range l {
		s.WriteString(r.bytes())
	}
	return s.String()
}

// limit is what a number of a row may be; that of a text is nothing.
type limit struct{ least, most int }

var name = limit{}

// kind is one of lists, by the words of the document.
type kind[T any] struct {
	lay    func([]T) (string, api.Errno)
	parse  func(string) ([]T, api.Errno)
	thing  func(row) T
	limits []limit
	rises  int   // the field that does
	blob   int   // the field of the root, ahead of that of the size; 0 of none
	rows   []row // some that may be, in order
}

var inodes = kind[api.Inode]{
	lay:   tables.Inodes,
	parse: tables.ParseInodes,
	thing: func(r row) api.Inode {
		return api.Inode{Num: r[0].(int), Dir: r[1].(int) == 1, Links: r[2].(int), Blob: api.Blob{Root: r[3].(int), Size: r[4].(int)}}
	},
	limits: []limit{{1, 65535}, {0, 1}, {1, 65535}, {0, 4095}, {0, 16384}},
	blob:   3,
	rows: []row{
		{1, 1, 2, 300, 16384}, {2, 0, 1, 0, 0}, {3, 1, 65535, 1, 1}, {127, 0, 127, 4095, 127}, {128, 0, 128, 127, 128},
		{300, 1, 300, 128, 16383}, {16383, 0, 16383, 4094, 16384}, {16384, 1, 16384, 0, 0}, {65534, 0, 65534, 2, 2}, {65535, 0, 1, 5, 6},
	},
}

var entries = kind[api.Entry]{
	lay:    tables.Entries,
	parse:  tables.ParseEntries,
	thing:  func(r row) api.Entry { return api.Entry{Name: r[0].(string), Num: r[1].(int)} },
	limits: []limit{name, {1, 65535}},
	rows: []row{
		{"-", 65535}, {"...", 1}, {".a", 2}, {"0", 2}, {"9", 2}, {"9-", 127}, {"99", 128}, {"_", 300},
		{"a", 16383}, {"a.b-c_9", 16384}, {"aa", 65534}, {"ab", 65535}, {"abcdefghijklmnop", 7}, {"abcdefghijklmnoq", 7}, {"b", 1}, {"z", 1},
	},
}

var snaps = kind[api.Snap]{
	lay:   tables.Snaps,
	parse: tables.ParseSnaps,
	thing: func(r row) api.Snap {
		return api.Snap{Name: r[0].(string), Id: r[1].(int), Plane: r[2].(int), Table: api.Blob{Root: r[3].(int), Size: r[4].(int)}}
	},
	limits: []limit{name, {1, 1 << 40}, {1, 7}, {0, 4095}, {0, 16384}},
	rises:  1,
	blob:   3,
	rows: []row{
		{"z", 1, 7, 0, 0}, {"one", 2, 1, 5, 6}, {"one", 127, 1, 4095, 16384}, {"a", 128, 2, 1, 1}, {"h.3", 65536, 3, 128, 128},
		{"abcdefghijklmnop", 1 << 32, 6, 4094, 16383}, {"...", 1<<40 - 1, 5, 127, 127}, {"w.1", 1 << 40, 7, 300, 300},
	},
}

// things are those of rows.
func (k kind[T]) things(l []row) []T {
	var t []T
	for _, r := range l {
		t = append(t, k.thing(r))
	}
	return t
}

// isName tells whether a text is a name, by the words of the document.
func isName(s string) bool {
	for _, b := range []byte(s) {
		if !('a' <= b && b <= 'z' || '0' <= b && b <= '9' || b == '.' || b == '-' || b == '_') {
			return false
		}
	}
	return 1 <= len(s) && len(s) <= 16 && s != "." && s != ".."
}

// may tells whether a list of rows may be, by the words of the document.
func (k kind[T]) may(l []row) bool {
	for i, r := range l {
		for j, x := range r {
			switch x := x.(type) {
			case int:
				if x < k.limits[j].least || x > k.limits[j].most {
					return false
				}
			case string:
				if !isName(x) {
					return false
				}
			}
		}
		if k.blob != 0 && (r[k.blob].(int) == 0) != (r[k.blob+1].(int) == 0) {
			return false
		}
		if i > 0 && !above(l[i-1][k.rises], r[k.rises]) {
			return false
		}
	}
	return len(l) <= maxMany
}

// above tells whether the second field is above the first one.
func above(x, y any) bool {
	if n, ok := x.(int); ok {
		return y.(int) > n
	}
	return y.(string) > x.(string)
}

// unlaid are the rows of some bytes, also if these are none that are laid.
func (k kind[T]) unlaid(s string) (l []row, ok bool) {
	many, s, ok := untold(s)
	for ; ok && many > 0; many-- {
		r := make(row, len(k.limits))
		for j := range r {
			var n int
			if n, s, ok = untold(s); !ok {
				return nil, false
			}
			r[j] = n
			if k.limits[j] == name {
				if n > len(s) {
					return nil, false
				}
				r[j], s = s[:n], s[n:]
			}
		}
		l = append(l, r)
	}
	return l, ok && s == ""
}

// lays fails if a list of rows is not laid as the document says.
func (k kind[T]) lays(t testing.TB, about string, l []row) {
	t.Helper()
	want, wantE := "", api.ErrTableForm
	if k.may(l) {
		want, wantE = laid(l), api.OK
	}
	if s, e := k.lay(k.things(l)); s != want || e != wantE {
		t.Fatalf("%s: %.80v is laid %.80x, %v, not %.80x, %v", about, l, s, e, want, wantE)
	}
}

// parses fails if some bytes are not parsed as the document says.
func (k kind[T]) parses(t testing.TB, about, s string) {
	t.Helper()
	l, ok := k.unlaid(s)
	want, wantE := []T(nil), api.ErrTableForm
	if ok && k.may(l) && laid(l) == s {
		want, wantE = k.things(l), api.OK
	}
	if got, e := k.parse(s); !alike(got, want) || e != wantE {
		t.Fatalf("%s: %.80x (%d bytes) is parsed %.80v, %v, not %.80v, %v", about, s, len(s), got, e, want, wantE)
	}
}

// alike tells whether lists are.
func alike[T any](a, b []T) bool {
	return slices.EqualFunc(a, b, func(x, y T) bool { return any(x) == any(y) })
}

// holds does both with a list of rows, whose numbers have bytes.
func (k kind[T]) holds(t testing.TB, about string, l ...row) {
	t.Helper()
	k.lays(t, about, l)
	k.parses(t, about, laid(l))
}

// refused fails if some bytes are parsed.
func (k kind[T]) refused(t testing.TB, about, s string) {
	t.Helper()
	if l, e := k.parse(s); len(l) != 0 || e != api.ErrTableForm {
		t.Fatalf("%s: %.80x (%d bytes) is parsed %.80v, %v", about, s, len(s), l, e)
	}
}

// each runs a test with the three kinds.
func each(t *testing.T, ofInodes func(*testing.T, kind[api.Inode]), ofEntries func(*testing.T, kind[api.Entry]), ofSnaps func(*testing.T, kind[api.Snap])) {
	t.Run("inodes", func(t *testing.T) { ofInodes(t, inodes) })
	t.Run("entries", func(t *testing.T) { ofEntries(t, entries) })
	t.Run("snaps", func(t *testing.T) { ofSnaps(t, snaps) })
}

// P12.1

func TestName(t *testing.T) {
	for s, want := range map[string]bool{
		"": false, ".": false, "..": false, "...": true, "....": true, ".a": true, "a.": true, "..a": true, ". ": false, "./": false,
		"a": true, "z": true, "0": true, "9": true, "-": true, "_": true, "--": true, "__": true, "-.": true, "._": true,
		"A": false, "Z": false, "`": false, "{": false, "/": false, ":": false, ",": false, "^": false, "+": false, "@": false, "[": false,
		"a/b": false, "/a": false, "a ": false, " a": false, "a\n": false, "\x00": false, "a\x00": false, "\xff": false, "é": false, "aé": false, "ａ": false,
		"abcdefghijklmno": true, "abcdefghijklmnop": true, "abcdefghijklmnopq": false,
		"................": true, ".................": false, "0123456789012345": true, "01234567890123456": false,
	} {
		if tables.Name(s) != want {
			t.Errorf("%q: not %v", s, want)
		}
	}
}

// TestNameOfEachByte: alone, and in each place of names of each length.
func TestNameOfEachByte(t *testing.T) {
	for b := range 256 {
		for size := range 20 {
			for at := range size {
				s := []byte(strings.Repeat("x", size))
				s[at] = byte(b)
				if got := tables.Name(string(s)); got != isName(string(s)) {
					t.Fatalf("%q: %v", s, got)
				}
			}
		}
	}
}

// TestNameOfFewBytes: all that are made of some bytes.
func TestNameOfFewBytes(t *testing.T) {
	last := []string{""}
	for range 5 {
		var next []string
		for _, s := range last {
			if got := tables.Name(s); got != isName(s) {
				t.Fatalf("%q: %v", s, got)
			}
			for _, b := range []byte(".a_-0/A\x80") {
				next = append(next, s+string([]byte{b}))
			}
		}
		last = next
	}
}

func TestNameOfManyBytes(t *testing.T) {
	for _, size := range []int{17, 32, 255, 256, 257, 256 + 16, 65536, 65536 + 1, 1 << 20} {
		for _, b := range []string{"a", ".", "\x00"} {
			if tables.Name(strings.Repeat(b, size)) {
				t.Errorf("%d times %q", size, b)
			}
		}
	}
}

// TestBytes: what is laid, byte by byte.
func TestBytes(t *testing.T) {
	for _, x := range []struct {
		l    []api.Inode
		want string
	}{
		{nil, "\x00"},
		{[]api.Inode{}, "\x00"},
		{[]api.Inode{{Num: 1, Dir: true, Links: 2}}, "\x01\x01\x01\x02\x00\x00"},
		{[]api.Inode{{Num: 7, Links: 1, Blob: api.Blob{Root: 3, Size: 4}}}, "\x01\x07\x00\x01\x03\x04"},
		{[]api.Inode{{Num: 1, Dir: true, Links: 300, Blob: api.Blob{Root: 4095, Size: 16384}}, {Num: 65535, Links: 65535}}, "\x02\x01\x01\xac\x02\xff\x1f\x80\x80\x01\xff\xff\x03\x00\xff\xff\x03\x00\x00"},
	} {
		if s, e := tables.Inodes(x.l); s != x.want || e != api.OK {
			t.Errorf("%v: %x, %v", x.l, s, e)
		}
		if l, e := tables.ParseInodes(x.want); !slices.Equal(l, x.l) || e != api.OK {
			t.Errorf("%x: %v, %v", x.want, l, e)
		}
	}
	for _, x := range []struct {
		l    []api.Entry
		want string
	}{
		{nil, "\x00"},
		{[]api.Entry{}, "\x00"},
		{[]api.Entry{{Name: "a", Num: 2}}, "\x01\x01a\x02"},
		{[]api.Entry{{Name: "a", Num: 2}, {Name: "b", Num: 300}}, "\x02\x01a\x02\x01b\xac\x02"},
		{[]api.Entry{{Name: "abcdefghijklmnop", Num: 65535}}, "\x01\x10abcdefghijklmnop\xff\xff\x03"},
	} {
		if s, e := tables.Entries(x.l); s != x.want || e != api.OK {
			t.Errorf("%v: %x, %v", x.l, s, e)
		}
		if l, e := tables.ParseEntries(x.want); !slices.Equal(l, x.l) || e != api.OK {
			t.Errorf("%x: %v, %v", x.want, l, e)
		}
	}
	for _, x := range []struct {
		l    []api.Snap
		want string
	}{
		{nil, "\x00"},
		{[]api.Snap{}, "\x00"},
		{[]api.Snap{{Name: "h.1", Id: 1, Plane: 7}}, "\x01\x03h.1\x01\x07\x00\x00"},
		{[]api.Snap{{Name: "z", Id: 127, Plane: 2, Table: api.Blob{Root: 3, Size: 4}}, {Name: "a", Id: 1 << 40, Plane: 1, Table: api.Blob{Root: 128, Size: 1}}}, "\x02\x01z\x7f\x02\x03\x04\x01a\x80\x80\x80\x80\x80\x20\x01\x80\x01\x01"},
	} {
		if s, e := tables.Snaps(x.l); s != x.want || e != api.OK {
			t.Errorf("%v: %x, %v", x.l, s, e)
		}
		if l, e := tables.ParseSnaps(x.want); !slices.Equal(l, x.l) || e != api.OK {
			t.Errorf("%x: %v, %v", x.want, l, e)
		}
	}
}

// edges are numbers about each limit and about each power of two.
func edges() []int {
	l := []int{0, 3, 5, 7, 8, 4095, 4096, 4097, 16383, 16384, 16385, 65535, 65536, 1 << 40, 1<<40 + 1, greatest}
	for bit := range 62 {
		l = append(l, 1<<bit-1, 1<<bit, 1<<bit+1)
	}
	return l
}

// none are numbers that have no bytes.
var none = []int{-1, -2, -127, -128, -4095, -16384, -65535, -1 << 16, -1 << 32, -1<<32 + 1, math.MinInt, math.MinInt + 1, greatest + 1, greatest + 2, math.MaxInt}

// names are some that may be and some that may not.
var names = []string{
	"", ".", "..", "...", "a", "z", "0", "9", "-", "_", "A", "Z", "/", "a/b", "a ", "\x00", "\x80", "\xff", "é", "a\x00",
	"abcdefghijklmnop", "abcdefghijklmnopq", "abcdefghijklmnoP", strings.Repeat("a", 100), strings.Repeat("a", 200), strings.Repeat("b", 300), strings.Repeat("a", 65536), strings.Repeat("a", 70000),
}

// TestFields: each field of a thing is made another one, alone and between others.
func TestFields(t *testing.T) { each(t, fields[api.Inode], fields[api.Entry], fields[api.Snap]) }

func fields[T comparable](t *testing.T, k kind[T]) {
	for at, r := range k.rows {
		for j, x := range r {
			if _, ok := x.(string); ok {
				for _, s := range names {
					one := r.with(j, s)
					k.holds(t, "alone", one)
					k.holds(t, "among others", inPlace(k.rows, at, one)...)
				}
				continue
			}
			for _, n := range edges() {
				one := r.with(j, n)
				if k.limits[j] == (limit{0, 1}) && n > 1 { // no list has it, but bytes may
					k.refused(t, "alone", laid([]row{one}))
					k.refused(t, "among others", laid(inPlace(k.rows, at, one)))
					continue
				}
				k.holds(t, "alone", one)
				k.holds(t, "among others", inPlace(k.rows, at, one)...)
			}
			for _, n := range none {
				if k.limits[j] != (limit{0, 1}) {
					k.lays(t, "alone", []row{r.with(j, n)})
					k.lays(t, "among others", inPlace(k.rows, at, r.with(j, n)))
				}
			}
		}
	}
}

// inPlace are rows with another one in a place.
func inPlace(l []row, at int, r row) []row {
	l = slices.Clone(l)
	l[at] = r
	return l
}

// TestBlobs: roots over sizes.
func TestBlobs(t *testing.T) {
	for _, root := range []int{math.MinInt, -4095, -1, 0, 1, 2, 127, 128, 4094, 4095, 4096, 4097, 8191, 65536 + 1, 1<<32 + 1, greatest, greatest + 1, math.MaxInt} {
		for _, size := range []int{math.MinInt, -16384, -1, 0, 1, 2, 239, 240, 16383, 16384, 16385, 32768, 65536 + 1, 1<<32 + 1, greatest, greatest + 1, math.MaxInt} {
			inode, snap := inodes.rows[0].with(3, root).with(4, size), snaps.rows[0].with(3, root).with(4, size)
			inodes.lays(t, "blob", []row{inode})
			snaps.lays(t, "blob", []row{snap})
			if min(root, size) >= 0 && max(root, size) <= greatest {
				inodes.holds(t, "blob", inode)
				snaps.holds(t, "blob", snap)
			}
		}
	}
}

// TestOrder: each row ahead of each one, also of itself, and all rows but for two that change places.
func TestOrder(t *testing.T) { each(t, order[api.Inode], order[api.Entry], order[api.Snap]) }

func order[T comparable](t *testing.T, k kind[T]) {
	k.holds(t, "none")
	k.holds(t, "in order", k.rows...)
	for i, x := range k.rows {
		for j, y := range k.rows {
			k.holds(t, "two", x, y)
			k.holds(t, "changed places", inPlace(inPlace(k.rows, i, y), j, x)...)
			k.holds(t, "one as another one", inPlace(k.rows, i, y)...)
			k.holds(t, "one that rises as that of another one", inPlace(k.rows, i, x.with(k.rises, y[k.rises]))...)
		}
	}
}

// TestWhatNeedNotRise: entries' numbers, snapshots' names and planes, and whatever an inode has but its number.
func TestWhatNeedNotRise(t *testing.T) {
	if s, e := tables.Entries([]api.Entry{{Name: "a", Num: 9}, {Name: "b", Num: 9}, {Name: "c", Num: 1}}); s != "\x03\x01a\x09\x01b\x09\x01c\x01" || e != api.OK {
		t.Errorf("%x, %v", s, e)
	}
	blob := api.Blob{Root: 9, Size: 8}
	if s, e := tables.Snaps([]api.Snap{{Name: "b", Id: 1, Plane: 7, Table: blob}, {Name: "a", Id: 2, Plane: 7, Table: blob}, {Name: "a", Id: 3, Plane: 1}}); s != "\x03\x01b\x01\x07\x09\x08\x01a\x02\x07\x09\x08\x01a\x03\x01\x00\x00" || e != api.OK {
		t.Errorf("%x, %v", s, e)
	}
	if s, e := tables.Inodes([]api.Inode{{Num: 1, Dir: true, Links: 9, Blob: blob}, {Num: 2, Dir: true, Links: 9, Blob: blob}, {Num: 3, Links: 1}}); s != "\x03\x01\x01\x09\x09\x08\x02\x01\x09\x09\x08\x03\x00\x01\x00\x00" || e != api.OK {
		t.Errorf("%x, %v", s, e)
	}
}

// TestOrderOfNames: byte by byte, a beginning ahead of what it begins.
func TestOrderOfNames(t *testing.T) {
	rising := []string{"-", "--", "-a", "...", ".0", "0", "00", "01", "1", "10", "9", "_", "__", "_a", "a", "a-", "a.", "a0", "a_", "aa", "aaaaaaaaaaaaaaaa", "aaaaaaaaaaaaaaab", "ab", "b", "z"}
	for i, a := range rising {
		for j, b := range rising {
			s, e := tables.Entries([]api.Entry{{Name: a, Num: 1}, {Name: b, Num: 1}})
			if (e == api.OK) != (i < j) || (s != "") != (i < j) {
				t.Errorf("%q, %q: %q, %v", a, b, s, e)
			}
			entries.parses(t, "order of names", laid([]row{{a, 1}, {b, 1}}))
		}
	}
}

// upTo are so many things that may be.
func inodesUpTo(n int) (l []row) {
	for i := range n {
		l = append(l, row{i*15 + 1, i % 2, i + 1, 0, 0})
	}
	return l
}

func entriesUpTo(n int) (l []row) {
	for i := range n {
		l = append(l, row{fmt.Sprintf("%016d", i), 65535 - i})
	}
	return l
}

func snapsUpTo(n int) (l []row) {
	for i := range n {
		l = append(l, row{"same", i*268435456 + 1, i%7 + 1, i, i * 4})
	}
	return l
}

// TestMany: lists of about as many as may be, and of as many in bytes.
func TestMany(t *testing.T) {
	for _, n := range []int{0, 1, 127, 128, 129, 255, 256, 257, 4094, 4095, 4096} {
		inodes.holds(t, "many", inodesUpTo(n)...)
		entries.holds(t, "many", entriesUpTo(n)...)
		snaps.holds(t, "many", snapsUpTo(min(n, 4095))...)
	}
	snaps.holds(t, "many", append(snapsUpTo(4095), row{"last", 1 << 40, 1, 0, 0})...)
	if s, e := tables.Inodes(inodes.things(inodesUpTo(4096))); len(s) < 4096*6 || e != api.OK {
		t.Error(len(s), e)
	}
	for _, n := range []int{4097, 4098, 4352, 4369} {
		inodes.holds(t, "too many", inodesUpTo(n)...)
		entries.holds(t, "too many", entriesUpTo(n)...)
	}
	for n := range 3 {
		var l []row
		for i := range maxMany + n - 1 {
			l = append(l, row{"a", i + 1, 1, 0, 0})
		}
		snaps.holds(t, "about as many as may be", l...)
	}
	if s, e := tables.Entries(entries.things(entriesUpTo(70000))); s != "" || e != api.ErrTableForm {
		t.Error(len(s), e)
	}
}

// TestManyOfNoThings: lists of zero things, which may not be, however many; bytes that claim things and have none.
func TestManyOfNoThings(t *testing.T) {
	each(t, ofNoThings[api.Inode], ofNoThings[api.Entry], ofNoThings[api.Snap])
}

func ofNoThings[T comparable](t *testing.T, k kind[T]) {
	for _, n := range []int{1, 2, 4096, 4097, 65536, 1 << 20} {
		if s, e := k.lay(make([]T, n)); s != "" || e != api.ErrTableForm {
			t.Error(n, s, e)
		}
	}
	for _, n := range edges() {
		if n > 0 {
			k.refused(t, "claimed", told(n))
			k.refused(t, "claimed, and zeros", told(n)+strings.Repeat("\x00", 5000))
			k.refused(t, "claimed, and ones", told(n)+strings.Repeat("\x01", 5000))
		}
		if n != len(k.rows) {
			k.refused(t, "another number ahead", told(n)+laid(k.rows)[1:])
		}
	}
}

// TestCuts: what is left of bytes, and what stands behind them.
func TestCuts(t *testing.T) { each(t, cuts[api.Inode], cuts[api.Entry], cuts[api.Snap]) }

func cuts[T comparable](t *testing.T, k kind[T]) {
	for n := range k.rows {
		s := laid(k.rows[:n])
		for i := range len(s) {
			k.refused(t, "cut at its end", s[:i])
			if i > 0 {
				k.parses(t, "cut at its beginning", s[i:])
			}
			k.parses(t, "without a byte", s[:i]+s[i+1:])
			for _, b := range []string{"\x00", "\x01", "\x80", "a", "\xff"} {
				k.parses(t, "with a byte more", s[:i]+b+s[i:])
			}
		}
		for _, more := range []string{"\x00", "\x01", "\x80", "\xff", s, s[:1], "\x00\x00\x00\x00\x00"} {
			k.refused(t, "with more behind it", s+more)
		}
	}
	k.refused(t, "nothing", "")
}

// TestOtherBytes: each byte is made each other one, also with the one behind it.
func TestOtherBytes(t *testing.T) {
	each(t, otherBytes[api.Inode], otherBytes[api.Entry], otherBytes[api.Snap])
}

func otherBytes[T comparable](t *testing.T, k kind[T]) {
	s := laid(k.rows)
	for i := range len(s) {
		for b := range 256 {
			k.parses(t, "with another byte", s[:i]+string([]byte{byte(b)})+s[i+1:])
		}
	}
}

// TestNumbersOfMoreBytes: a number that has more digits than need be is none, nor is one that has more than nine.
func TestNumbersOfMoreBytes(t *testing.T) {
	each(t, moreBytes[api.Inode], moreBytes[api.Entry], moreBytes[api.Snap])
}

func moreBytes[T comparable](t *testing.T, k kind[T]) {
	longer := func(n, more int) string {
		s := []byte(told(n))
		for range more {
			s[len(s)-1] |= 128
			s = append(s, 0)
		}
		return string(s)
	}
	for more := 1; more <= 12; more++ {
		k.refused(t, "how many", longer(len(k.rows), more)+laid(k.rows)[1:])
		k.refused(t, "none", longer(0, more))
		for at, r := range k.rows {
			for j, x := range r {
				n, ok := x.(int)
				tail := ""
				if !ok {
					n, tail = len(x.(string)), x.(string)
				}
				head := laid(k.rows[:at])[1:] + r[:j].bytes()
				rest := tail + r[j+1:].bytes() + laid(k.rows[at+1:])[1:]
				k.parses(t, "as it was", told(len(k.rows))+head+told(n)+rest)
				k.refused(t, "more bytes", told(len(k.rows))+head+longer(n, more)+rest)
				k.refused(t, "nine digits and more", told(len(k.rows))+head+strings.Repeat("\x80", 8+more)+"\x01"+rest)
				k.refused(t, "wrapped round", told(len(k.rows))+head+string([]byte{told(n)[0] | 128})+strings.Repeat("\x80", 7+more)+"\x02"+rest)
			}
		}
	}
}

// TestShortBytes: all that are made of a few bytes.
func TestShortBytes(t *testing.T) {
	last := []string{""}
	for range 7 {
		var next []string
		for _, s := range last {
			inodes.parses(t, "short", s)
			entries.parses(t, "short", s)
			snaps.parses(t, "short", s)
			for _, b := range []byte{0, 1, 2, 'a', 0x80} {
				next = append(next, s+string([]byte{b}))
			}
		}
		last = next
	}
}

// TestRowsOfFewNumbers: all rows of two things whose fields are of a few numbers and texts.
func TestRowsOfFewNumbers(t *testing.T) {
	var all, half []row
	for _, n := range []int{0, 1, 2} {
		for _, dir := range []int{0, 1} {
			for _, links := range []int{0, 1} {
				for _, root := range []int{0, 1} {
					for _, size := range []int{0, 1} {
						all = append(all, row{n, dir, links, root, size})
					}
				}
			}
		}
		for _, s := range []string{"", "a", "b"} {
			half = append(half, row{s, n})
		}
	}
	for _, x := range all {
		for _, y := range all {
			inodes.holds(t, "two", x, y)
			snaps.holds(t, "two", row{"a", x[0], x[2], x[3], x[4]}, row{"a", y[0], y[2], y[3], y[4]})
		}
	}
	for _, x := range half {
		for _, y := range half {
			for _, z := range half {
				entries.holds(t, "three", x, y, z)
			}
		}
	}
}

// P12.2

// number is one of a field, by chance; wrong tells how seldom it is one that may not be.
func number(chance *rand.Rand, l limit) int {
	if chance.Intn(40) == 0 {
		return chance.Intn(2 * (l.most + 1))
	}
	if chance.Intn(3) == 0 {
		return l.least + chance.Intn(min(l.most-l.least+1, 3))
	}
	return l.least + chance.Intn(l.most-l.least+1)
}

// text is a name by chance, or seldom none.
func text(chance *rand.Rand) string {
	letters := "abcdefghijklmnopqrstuvwxyz0123456789.-_"
	if chance.Intn(40) == 0 {
		letters += "A/ \x00\xff"
	}
	s := make([]byte, 1+chance.Intn(16+chance.Intn(20)/19))
	for i := range s {
		s[i] = letters[chance.Intn(len(letters))]
	}
	return string(s)
}

// byChance are rows, most of which may be.
func (k kind[T]) byChance(chance *rand.Rand, n int) []row {
	var l []row
	for range n {
		r := make(row, len(k.limits))
		for j, x := range k.limits {
			switch {
			case x == name:
				r[j] = text(chance)
			case x.most == 1: // a list has nothing else
				r[j] = chance.Intn(2)
			default:
				r[j] = number(chance, x)
			}
		}
		if k.blob != 0 && chance.Intn(40) != 0 && (r[k.blob] == 0 || r[k.blob+1] == 0) {
			r[k.blob], r[k.blob+1] = 0, 0
		}
		l = append(l, r)
	}
	if chance.Intn(10) != 0 {
		slices.SortFunc(l, func(x, y row) int {
			if above(x[k.rises], y[k.rises]) {
				return -1
			}
			return 1
		})
		l = slices.CompactFunc(l, func(x, y row) bool { return x[k.rises] == y[k.rises] })
	}
	return l
}

func TestRowsByChance(t *testing.T) {
	each(t, rowsByChance[api.Inode], rowsByChance[api.Entry], rowsByChance[api.Snap])
}

func rowsByChance[T comparable](t *testing.T, k kind[T]) {
	chance := rand.New(rand.NewSource(12))
	right := 0
	for i := range 4000 {
		l := k.byChance(chance, chance.Intn(i%60+1))
		k.holds(t, "by chance", l...)
		k.back(t, k.things(l))
		if k.may(l) && len(l) > 3 {
			right++
		}
		s := []byte(laid(l))
		for range chance.Intn(3) {
			s[chance.Intn(len(s))] = byte(chance.Intn(256))
		}
		k.parses(t, "by chance, with other bytes", string(s))
		k.forth(t, string(s))
	}
	if right < 300 {
		t.Error("few lists that may be", right)
	}
}

// back fails if what is laid of a list is not parsed as it.
func (k kind[T]) back(t testing.TB, l []T) {
	t.Helper()
	s, e := k.lay(l)
	if e != api.OK {
		return
	}
	if got, e := k.parse(s); !alike(got, l) || e != api.OK {
		t.Fatalf("%v: %x, %v, %v", l, s, got, e)
	}
}

// forth fails if what is parsed of some bytes is not laid as them.
func (k kind[T]) forth(t testing.TB, s string) {
	t.Helper()
	l, e := k.parse(s)
	if e != api.OK {
		return
	}
	if got, e := k.lay(l); got != s || e != api.OK {
		t.Fatalf("%x: %v, %x, %v", s, l, got, e)
	}
}

// TestBackAndForth: lists that may be, of each length.
func TestBackAndForth(t *testing.T) {
	each(t, backAndForth[api.Inode], backAndForth[api.Entry], backAndForth[api.Snap])
}

func backAndForth[T comparable](t *testing.T, k kind[T]) {
	for i := range len(k.rows) + 1 {
		for j := range i + 1 {
			l := k.things(k.rows[j:i])
			k.back(t, l)
			k.forth(t, laid(k.rows[j:i]))
			if s, e := k.lay(l); s != laid(k.rows[j:i]) || e != api.OK {
				t.Fatal(l, s, e)
			}
		}
	}
}

func FuzzParse(f *testing.F) {
	for _, s := range []string{"", "\x00", "\x01", laid(inodes.rows), laid(entries.rows), laid(snaps.rows), laid(inodes.rows[:2]), laid(entries.rows[3:5]), laid(snaps.rows[4:6])} {
		f.Add(s)
	}
	f.Fuzz(func(t *testing.T, s string) {
		inodes.parses(t, "fuzz", s)
		entries.parses(t, "fuzz", s)
		snaps.parses(t, "fuzz", s)
		inodes.forth(t, s)
		entries.forth(t, s)
		snaps.forth(t, s)
		if tables.Name(s) != isName(s) {
			t.Errorf("%q: %v", s, !isName(s))
		}
	})
}

func FuzzLay(f *testing.F) {
	f.Add("a", 1, 1, 2, 300, 16384, "b", 2, 0, 1, 0, 0)
	f.Add("abcdefghijklmnop", 65535, 1, 65535, 4095, 1, "..", 1<<40, 1, 7, 1, 1)
	f.Fuzz(func(t *testing.T, aName string, a, aDir, aLinks, aRoot, aSize int, bName string, b, bDir, bLinks, bRoot, bSize int) {
		inodes.lays(t, "fuzz", []row{{a, aDir & 1, aLinks, aRoot, aSize}, {b, bDir & 1, bLinks, bRoot, bSize}})
		entries.lays(t, "fuzz", []row{{aName, a}, {bName, b}})
		snaps.lays(t, "fuzz", []row{{aName, a, aLinks, aRoot, aSize}, {bName, b, bLinks, bRoot, bSize}})
		inodes.back(t, inodes.things([]row{{a, aDir & 1, aLinks, aRoot, aSize}, {b, bDir & 1, bLinks, bRoot, bSize}}))
		entries.back(t, entries.things([]row{{aName, a}, {bName, b}}))
		snaps.back(t, snaps.things([]row{{aName, a, aLinks, aRoot, aSize}, {bName, b, bLinks, bRoot, bSize}}))
	})
}

// TestExamples: those of the document.
func TestExamples(t *testing.T) {
	if s, e := tables.Entries([]api.Entry{{Name: "a", Num: 2}}); s != "\x01\x01a\x02" || e != api.OK {
		t.Errorf("%x, %v", s, e)
	}
	if l, e := tables.ParseEntries("\x02\x01b\x01\x01a\x01"); len(l) != 0 || e != api.ErrTableForm {
		t.Error(l, e)
	}
}

// The rules that hold everywhere

// TestAnswersAgain: the same is answered again, whatever becomes of what was answered, and of the room behind it.
func TestAnswersAgain(t *testing.T) {
	each(t, answersAgain[api.Inode], answersAgain[api.Entry], answersAgain[api.Snap])
}

func answersAgain[T comparable](t *testing.T, k kind[T]) {
	var zero T
	s := laid(k.rows)
	first, _ := k.parse(s)
	for range 3 {
		l, e := k.parse(s)
		if !slices.Equal(l, first) || e != api.OK {
			t.Fatal(l, e)
		}
		l = l[:cap(l)]
		for i := range l {
			l[i] = zero
		}
		if !slices.Equal(first, k.things(k.rows)) {
			t.Fatal("two answers share memory", first)
		}
	}
}

// TestListsStay: a list that is handed in is neither changed nor kept, nor the room behind it.
func TestListsStay(t *testing.T) {
	each(t, listsStay[api.Inode], listsStay[api.Entry], listsStay[api.Snap])
}

func listsStay[T comparable](t *testing.T, k kind[T]) {
	all := k.things(k.rows)
	for n := range len(all) + 1 {
		for _, l := range [][]T{all[:n], append([]T(nil), all[:n]...)[:n:n]} {
			s, e := k.lay(l)
			if s != laid(k.rows[:n]) || e != api.OK {
				t.Fatal(n, s, e)
			}
			if !slices.Equal(l, k.things(k.rows)[:n]) || !slices.Equal(all, k.things(k.rows)) {
				t.Fatal("changed", n, l, all)
			}
		}
	}
	slices.Reverse(all)
	if s, e := k.lay(all); s != "" || e != api.ErrTableForm {
		t.Fatal(s, e)
	}
	slices.Reverse(all)
	if !slices.Equal(all, k.things(k.rows)) {
		t.Fatal("changed", all)
	}
}

// TestZeroBesideErrors: a fault behind things that may be lets none of them be told.
func TestZeroBesideErrors(t *testing.T) {
	each(t, zeroBesideErrors[api.Inode], zeroBesideErrors[api.Entry], zeroBesideErrors[api.Snap])
}

func zeroBesideErrors[T comparable](t *testing.T, k kind[T]) {
	s := laid(k.rows)
	for _, wrong := range []string{s + "\x00", s[:len(s)-1], s[:len(s)-1] + "\xff", told(len(k.rows)+1) + s[1:]} {
		if l, e := k.parse(wrong); len(l) != 0 || e != api.ErrTableForm {
			t.Errorf("%x: %v, %v", wrong, l, e)
		}
	}
	if s, e := k.lay(append(k.things(k.rows), k.thing(k.rows[0]))); s != "" || e != api.ErrTableForm {
		t.Errorf("%x, %v", s, e)
	}
}
