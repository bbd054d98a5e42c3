package planes_test

import (
	"bytes"
	"fmt"
	"math"
	"math/rand"
	"runtime"
	"strings"
	"testing"

	"stillage/api"
	"stillage/planes"
)

const (
	fewest = 8
	most   = 4096 // blocks of the greatest map
	count  = 8    // planes
)

// sizes are how many blocks the tested maps have, also such that their last byte of a set is not whole.
var sizes = []int{8, 9, 15, 16, 17, 20, 63, 64, 65, 255, 256, 257, 1000, most - 1, most}

// noPlanes are numbers that no plane has.
var noPlanes = []int{-1, -8, 8, 9, 15, 16, 64, 256, 1 << 32, 1<<32 + 1, -1 << 32, 1 << 62, math.MinInt, math.MinInt + 1, math.MaxInt}

// noughts are so many bytes 0.
func noughts(n int) string { return strings.Repeat("\x00", n) }

// least is a text without the bytes 0 behind it.
func least(s string) string { return strings.TrimRight(s, "\x00") }

// of is the least text of the set of these numbers, by the words of chapter 1.
func of(l ...int) string {
	var set []byte
	for _, n := range l {
		for len(set) <= n/8 {
			set = append(set, 0)
		}
		set[n/8] |= []byte{1, 2, 4, 8, 16, 32, 64, 128}[n%8]
	}
	return string(set)
}

// upTo are the numbers from one on up to another one.
func upTo(from, last int) []int {
	var l []int
	for n := from; n <= last; n++ {
		l = append(l, n)
	}
	return l
}

// made is a map whose planes are empty.
func made(t testing.TB, blocks int) *planes.Map {
	t.Helper()
	m, e := planes.New(blocks)
	if m == nil || e != api.OK {
		t.Fatalf("New(%d): %d", blocks, e)
	}
	return m
}

// parsed is the map of a text.
func parsed(t testing.TB, s string) *planes.Map {
	t.Helper()
	m, e := planes.Parse(s)
	if m == nil || e != api.OK {
		t.Fatalf("Parse of %d bytes: %d", len(s), e)
	}
	return m
}

// fine fails if one of some calls was not answered OK.
func fine(t testing.TB, answers ...api.Errno) {
	t.Helper()
	for i, e := range answers {
		if e != api.OK {
			t.Fatalf("call %d: %d", i, e)
		}
	}
}

// model is a map by the words of the document: of each plane which blocks it has.
type model struct {
	blocks int
	has    [count]map[int]bool
}

func newModel(blocks int) *model {
	m := &model{blocks: blocks}
	for p := range m.has {
		m.has[p] = map[int]bool{}
	}
	return m
}

// modelOf is that of a text.
func modelOf(s string) *model {
	m := newModel(len(s))
	for b := range len(s) {
		for p, value := range []byte{1, 2, 4, 8, 16, 32, 64, 128} {
			if s[b]&value != 0 {
				m.has[p][b] = true
			}
		}
	}
	return m
}

func (m *model) clone() *model {
	c := newModel(m.blocks)
	for p := range m.has {
		c.copy(m, p, p)
	}
	return c
}

// copy makes a plane what one of another map, or of the same, is.
func (m *model) copy(from *model, p, to int) {
	has := map[int]bool{}
	for b := range from.has[p] {
		has[b] = true
	}
	m.has[to] = has
}

// put is what Put does.
func (m *model) put(p int, set string) api.Errno {
	if p < 0 || p > 7 {
		return api.ErrPlaneAt
	}
	has := map[int]bool{}
	for n := range 8 * len(set) {
		if int(set[n/8])>>(n%8)%2 == 0 {
			continue
		}
		if n < 1 || n > m.blocks-1 {
			return api.ErrPlaneAt
		}
		has[n] = true
	}
	m.has[p] = has
	return api.OK
}

// set is the least text of the blocks that are wanted.
func (m *model) set(wanted func(b int) bool) string {
	var l []int
	for b := range m.blocks {
		if wanted(b) {
			l = append(l, b)
		}
	}
	return of(l...)
}

// plane is that of a plane, used that of the blocks that at least one plane has.
func (m *model) plane(p int) string { return m.set(func(b int) bool { return m.has[p][b] }) }

func (m *model) used() string { return m.set(m.isUsed) }

func (m *model) isUsed(b int) bool {
	for p := range m.has {
		if m.has[p][b] {
			return true
		}
	}
	return false
}

// minus is the set of what one plane has and another one has not.
func (m *model) minus(p, q int) string {
	return m.set(func(b int) bool { return m.has[p][b] && !m.has[q][b] })
}

func (m *model) free() int {
	n := 0
	for b := 1; b < m.blocks; b++ {
		if !m.isUsed(b) {
			n++
		}
	}
	return n
}

func (m *model) text() string {
	var s bytes.Buffer
	for b := range m.blocks {
		sum := 0
		for p, value := range []int{1, 2, 4, 8, 16, 32, 64, 128} {
			if m.has[p][b] {
				sum += value
			}
		}
		s.WriteByte(byte(sum))
	}
	return s.String()
}

// tells is all that a map tells, but of differences.
func tells(m *planes.Map) string {
	var s strings.Builder
	fmt.Fprintf(&s, "%d blocks %q, used %q, free %d", m.Blocks(), m.Text(), m.Used(), m.Free())
	for p := -1; p <= count; p++ {
		set, e := m.Plane(p)
		fmt.Fprintf(&s, ", %d: %q %d", p, set, e)
	}
	return s.String()
}

func (m *model) tells() string {
	var s strings.Builder
	fmt.Fprintf(&s, "%d blocks %q, used %q, free %d", m.blocks, m.text(), m.used(), m.free())
	for p := -1; p <= count; p++ {
		if p < 0 || p == count {
			fmt.Fprintf(&s, ", %d: %q %d", p, "", api.ErrPlaneAt)
		} else {
			fmt.Fprintf(&s, ", %d: %q %d", p, m.plane(p), api.OK)
		}
	}
	return s.String()
}

// other is where a map tells something else than the model; empty, if nowhere.
func other(m *planes.Map, want *model) string {
	if got, want := tells(m), want.tells(); got != want {
		return fmt.Sprintf("%s\nnot\n%s", got, want)
	}
	return ""
}

// otherDiff is where the differences of a map's planes are others than the model's.
func otherDiff(m *planes.Map, want *model) string {
	for base := range count {
		for target := range count {
			adds, takes := want.minus(target, base), want.minus(base, target)
			if a, b, e := m.Diff(base, target); a != adds || b != takes || e != api.OK {
				return fmt.Sprintf("Diff(%d, %d): %q, %q, %d, not %q, %q", base, target, a, b, e, adds, takes)
			}
		}
	}
	return ""
}

// check fails if a map tells something else than the model.
func check(t testing.TB, name string, m *planes.Map, want *model) {
	t.Helper()
	if s := other(m, want); s != "" {
		t.Fatalf("%s: %s", name, s)
	}
	if s := otherDiff(m, want); s != "" {
		t.Fatalf("%s: %s", name, s)
	}
}

// bytesBy are so many bytes by chance, of which few, some or all have bits; the first one is 0.
func bytesBy(chance *rand.Rand, n int) string {
	s := make([]byte, n)
	one := 1 + chance.Intn(6)
	for i := 1; i < n; i++ {
		if chance.Intn(one) == 0 {
			s[i] = byte(chance.Intn(256))
		}
	}
	return string(s)
}

// P9.1

func TestNew(t *testing.T) {
	for _, n := range append(upTo(fewest, 100), sizes...) {
		m := made(t, n)
		if m.Blocks() != n || m.Text() != noughts(n) || m.Used() != "" || m.Free() != n-1 {
			t.Errorf("New(%d): %d blocks, %q, used %q, free %d", n, m.Blocks(), m.Text(), m.Used(), m.Free())
		}
		for p := range count {
			if s, e := m.Plane(p); s != "" || e != api.OK {
				t.Errorf("New(%d): Plane(%d): %q, %d", n, p, s, e)
			}
			for q := range count {
				if a, b, e := m.Diff(p, q); a != "" || b != "" || e != api.OK {
					t.Errorf("New(%d): Diff(%d, %d): %q, %q, %d", n, p, q, a, b, e)
				}
			}
		}
	}
}

func TestNewOfWrongSizes(t *testing.T) {
	for _, n := range []int{0, 1, 2, 6, 7, -1, -7, -8, -9, -4096, 4097, 4098, 8192, 65535, 65536, 1 << 32, 1<<32 + 8, -1<<32 + 8, 1 << 62, math.MinInt, math.MinInt + 8, math.MaxInt} {
		if m, e := planes.New(n); m != nil || e != api.ErrPlaneForm {
			t.Errorf("New(%d): %v, %d", n, m != nil, e)
		}
	}
}

// TestParse: each byte in each place but the first one, of which the bits are those of the planes.
func TestParse(t *testing.T) {
	for place := 1; place < fewest; place++ {
		for c := range 256 {
			s := []byte(noughts(fewest))
			s[place] = byte(c)
			m := parsed(t, string(s))
			for p, value := range []int{1, 2, 4, 8, 16, 32, 64, 128} {
				want := ""
				if c&value != 0 {
					want = of(place)
				}
				if set, e := m.Plane(p); set != want || e != api.OK {
					t.Fatalf("%d in place %d: Plane(%d): %q, %d", c, place, p, set, e)
				}
			}
			check(t, fmt.Sprintf("%d in place %d", c, place), m, modelOf(string(s)))
		}
	}
}

func TestParseOfAllSizes(t *testing.T) {
	chance := rand.New(rand.NewSource(9))
	for _, n := range sizes {
		full := "\x00" + strings.Repeat("\xff", n-1)
		last := noughts(n-1) + "\x80"
		for _, s := range []string{noughts(n), full, last, bytesBy(chance, n), bytesBy(chance, n), bytesBy(chance, n)} {
			m := parsed(t, s)
			if m.Text() != s || m.Blocks() != n {
				t.Fatalf("of %d: %d blocks, %q, not %q", n, m.Blocks(), m.Text(), s)
			}
			check(t, fmt.Sprintf("of %d", n), m, modelOf(s))
		}
	}
}

func TestParseOfWrongTexts(t *testing.T) {
	none := func(name, s string) {
		t.Helper()
		if m, e := planes.Parse(s); m != nil || e != api.ErrPlaneForm {
			t.Errorf("%s: %v, %d", name, m != nil, e)
		}
	}
	for _, n := range []int{0, 1, 2, 6, 7, 4097, 4098, 8192, 65536, 1 << 20} {
		none(fmt.Sprintf("%d noughts", n), noughts(n))
		if n > 0 {
			none(fmt.Sprintf("%d bytes", n), "\x00"+strings.Repeat("\xff", n-1))
		}
	}
	for c := 1; c < 256; c++ {
		for _, n := range []int{fewest, 20, most} {
			first := string([]byte{byte(c)})
			none(fmt.Sprintf("%d and noughts, %d", c, n), first+noughts(n-1))
			none(fmt.Sprintf("%d and others, %d", c, n), first+strings.Repeat("\xff", n-1))
		}
	}
}

// TestText: each plane's bit of each block, and no other one.
func TestText(t *testing.T) {
	for _, n := range []int{8, 9, 20, 257} {
		for p := range count {
			for b := 1; b < n; b++ {
				m := made(t, n)
				fine(t, m.Put(p, of(b)))
				want := noughts(b) + string([]byte{[]byte{1, 2, 4, 8, 16, 32, 64, 128}[p]}) + noughts(n-b-1)
				if s := m.Text(); s != want {
					t.Fatalf("of %d: Put(%d) of %d: %q, not %q", n, p, b, s, want)
				}
			}
		}
	}
}

// P9.2

// TestNoPlane: no call finds a plane that is not there, and what is refused changes nothing.
func TestNoPlane(t *testing.T) {
	for _, n := range []int{8, 20, most} {
		text := bytesBy(rand.New(rand.NewSource(int64(n))), n)
		m, want := parsed(t, text), modelOf(text)
		for _, p := range noPlanes {
			if s, e := m.Plane(p); s != "" || e != api.ErrPlaneAt {
				t.Errorf("Plane(%d): %q, %d", p, s, e)
			}
			for _, set := range []string{"", of(1), of(n - 1), of(0), of(n), noughts(9)} {
				if e := m.Put(p, set); e != api.ErrPlaneAt {
					t.Errorf("Put(%d, %q): %d", p, set, e)
				}
			}
			if e := m.Clear(p); e != api.ErrPlaneAt {
				t.Errorf("Clear(%d): %d", p, e)
			}
			for _, q := range append(upTo(0, 7), noPlanes...) {
				for _, x := range [][2]int{{p, q}, {q, p}} {
					if e := m.Copy(x[0], x[1]); e != api.ErrPlaneAt {
						t.Errorf("Copy(%d, %d): %d", x[0], x[1], e)
					}
					if a, b, e := m.Diff(x[0], x[1]); a != "" || b != "" || e != api.ErrPlaneAt {
						t.Errorf("Diff(%d, %d): %q, %q, %d", x[0], x[1], a, b, e)
					}
				}
			}
		}
		check(t, fmt.Sprintf("of %d", n), m, want)
	}
}

// TestPut: each plane may have each block but block 0, and all of them.
func TestPut(t *testing.T) {
	for _, n := range sizes {
		m, want := made(t, n), newModel(n)
		for p := range count {
			for _, l := range [][]int{{1}, {n - 1}, {1, n - 1}, {7}, {2, 5}, upTo(1, n-1), upTo(1, n-2), upTo(2, n-1), nil, upTo(n/2, n-1), {1 + p%(n-1)}} {
				set := of(l...)
				if e := m.Put(p, set); e != api.OK {
					t.Fatalf("of %d: Put(%d, %d): %d", n, p, l, e)
				}
				if s, e := m.Plane(p); s != set || e != api.OK {
					t.Fatalf("of %d: Put(%d, %d): Plane: %q, %d", n, p, l, s, e)
				}
				fine(t, want.put(p, set))
				if s := other(m, want); s != "" {
					t.Fatalf("of %d: Put(%d, %d): %s", n, p, l, s)
				}
			}
		}
		check(t, fmt.Sprintf("of %d", n), m, want)
	}
}

// TestPutOfNoughts: a set with bytes 0 behind it is put, however many there are; the plane is the least text.
func TestPutOfNoughts(t *testing.T) {
	for _, n := range []int{8, 20, most} {
		for _, set := range []string{"", of(1), of(n - 1), of(1, n-1), of(upTo(1, n-1)...)} {
			for _, more := range []int{0, 1, 2, 7, 8, 511, 512, 513, 8192, 9000, 1 << 20} {
				m := made(t, n)
				fine(t, m.Put(5, of(3)))
				if e := m.Put(5, set+noughts(more)); e != api.OK {
					t.Errorf("of %d: Put of %q and %d noughts: %d", n, set, more, e)
				}
				if s, e := m.Plane(5); s != set || e != api.OK {
					t.Errorf("of %d: %q and %d noughts: %q, %d", n, set, more, s, e)
				}
				if s := m.Used(); s != set {
					t.Errorf("of %d: %q and %d noughts: used %q", n, set, more, s)
				}
			}
		}
	}
}

// TestPutOfOtherNumbers: block 0, and what is beyond the last block, is refused, alone and beside others, and the plane stays.
func TestPutOfOtherNumbers(t *testing.T) {
	for _, n := range sizes {
		text := bytesBy(rand.New(rand.NewSource(int64(n))), n)
		m, want := parsed(t, text), modelOf(text)
		for p := range count {
			for _, b := range []int{0, n, n + 1, n + 6, n + 7, n + 8, n + 9, 2 * n, 4096, 4097, 8191, 65535, 65536, 65537, 72000, 1 << 20} {
				for _, set := range []string{of(b), of(b) + noughts(40), of(1, b), of(n-1, b), of(0, b), of(1, n-1, b, b+1)} {
					if e := m.Put(p, set); e != api.ErrPlaneAt {
						t.Fatalf("of %d: Put(%d) of %d and others: %d", n, p, b, e)
					}
				}
			}
			if s, e := m.Plane(p); s != want.plane(p) || e != api.OK {
				t.Fatalf("of %d: Plane(%d): %q, %d, not %q", n, p, s, e, want.plane(p))
			}
		}
		check(t, fmt.Sprintf("of %d", n), m, want)
	}
}

// TestPutOfEverySmallSet: of a map of 9 blocks, whose sets of two bytes are those that have just the right bits.
func TestPutOfEverySmallSet(t *testing.T) {
	m := made(t, 9)
	for c := range 1 << 16 {
		fine(t, m.Put(3, of(4)))
		set := string([]byte{byte(c), byte(c >> 8)})
		want, plane := api.OK, least(set)
		if c&1 != 0 || c>>8&0xfe != 0 {
			want, plane = api.ErrPlaneAt, of(4)
		}
		if e := m.Put(3, set); e != want {
			t.Fatalf("%q: %d, not %d", set, e, want)
		}
		if s, e := m.Plane(3); s != plane || e != api.OK {
			t.Fatalf("%q: %q, %d", set, s, e)
		}
	}
}

// TestCopy: from each plane to each, also to itself; both go their own ways then.
func TestCopy(t *testing.T) {
	for _, n := range []int{8, 20, 300} {
		text := bytesBy(rand.New(rand.NewSource(int64(n))), n)
		for from := range count {
			for to := range count {
				m, want := parsed(t, text), modelOf(text)
				if e := m.Copy(from, to); e != api.OK {
					t.Fatalf("Copy(%d, %d): %d", from, to, e)
				}
				want.copy(want, from, to)
				name := fmt.Sprintf("of %d: Copy(%d, %d)", n, from, to)
				check(t, name, m, want)
				fine(t, m.Put(from, of(2, 6)), want.put(from, of(2, 6)))
				check(t, name+", Put", m, want)
				fine(t, m.Copy(from, to), m.Clear(to), want.put(to, ""))
				check(t, name+", Clear", m, want)
			}
		}
	}
}

// TestClear: a plane has nothing then, the others what they had.
func TestClear(t *testing.T) {
	for _, n := range []int{8, 20, 300} {
		full := "\x00" + strings.Repeat("\xff", n-1)
		text := bytesBy(rand.New(rand.NewSource(int64(n))), n)
		for _, s := range []string{full, text, noughts(n)} {
			for p := range count {
				m, want := parsed(t, s), modelOf(s)
				for range 2 {
					if e := m.Clear(p); e != api.OK {
						t.Fatalf("Clear(%d): %d", p, e)
					}
					fine(t, want.put(p, ""))
					check(t, fmt.Sprintf("of %d: Clear(%d)", n, p), m, want)
				}
			}
		}
	}
}

// P9.3

func TestUsedAndFree(t *testing.T) {
	for _, n := range sizes {
		m := made(t, n)
		tells := func(name, used string, free int) {
			t.Helper()
			if m.Used() != used || m.Free() != free {
				t.Errorf("of %d: %s: used %q, free %d, not %q, %d", n, name, m.Used(), m.Free(), used, free)
			}
		}
		tells("nothing", "", n-1)
		// A block is used once, however many planes have it.
		for p := range count {
			fine(t, m.Put(p, of(3)))
			tells("the same block in many planes", of(3), n-2)
		}
		for p := range count - 1 {
			fine(t, m.Clear(p))
			tells("the same block in fewer planes", of(3), n-2)
		}
		fine(t, m.Clear(7))
		tells("nothing again", "", n-1)
		// Each plane's blocks are used.
		for p := range 7 {
			fine(t, m.Put(p, of(p+1)))
			tells("another block in each plane", of(upTo(1, p+1)...), n-2-p)
		}
		fine(t, m.Put(7, of(n-1)))
		for p := range count {
			fine(t, m.Put(p, of(n-1)))
		}
		tells("the last block", of(n-1), n-2)
		fine(t, m.Put(4, of(upTo(1, n-1)...)))
		tells("all", of(upTo(1, n-1)...), 0)
	}
}

func TestDiff(t *testing.T) {
	for _, x := range []struct{ base, target, adds, takes []int }{
		{nil, nil, nil, nil},
		{[]int{1, 2}, []int{1, 2}, nil, nil},
		{[]int{1, 2}, nil, nil, []int{1, 2}},
		{nil, []int{1, 2}, []int{1, 2}, nil},
		{[]int{1, 2}, []int{2, 5}, []int{5}, []int{1}},
		{[]int{1, 19}, []int{1}, nil, []int{19}},
		{[]int{1}, []int{1, 19}, []int{19}, nil},
		{[]int{1, 3, 5, 17}, []int{2, 4, 6, 18}, []int{2, 4, 6, 18}, []int{1, 3, 5, 17}},
		{upTo(1, 19), []int{9}, nil, append(upTo(1, 8), upTo(10, 19)...)},
		{[]int{9}, upTo(1, 19), append(upTo(1, 8), upTo(10, 19)...), nil},
	} {
		for base := range count {
			for target := range count {
				if base == target {
					continue
				}
				m := made(t, 20)
				fine(t, m.Put(base, of(x.base...)), m.Put(target, of(x.target...)))
				text := m.Text()
				if a, b, e := m.Diff(base, target); a != of(x.adds...) || b != of(x.takes...) || e != api.OK {
					t.Errorf("Diff(%d, %d) of %d, %d: %q, %q, %d", base, target, x.base, x.target, a, b, e)
				}
				if a, b, e := m.Diff(base, base); a != "" || b != "" || e != api.OK {
					t.Errorf("Diff(%d, %d): %q, %q, %d", base, base, a, b, e)
				}
				if m.Text() != text {
					t.Errorf("Diff(%d, %d) changes the map", base, target)
				}
			}
		}
	}
}

// TestClone: it tells what its original tells, and each goes its own way.
func TestClone(t *testing.T) {
	for _, n := range []int{8, 20, 300, most} {
		text := bytesBy(rand.New(rand.NewSource(int64(n))), n)
		for name, do := range map[string]func(m *planes.Map, want *model, p int){
			"Put":   func(m *planes.Map, want *model, p int) { m.Put(p, of(1, 6)); want.put(p, of(1, 6)) },
			"Copy":  func(m *planes.Map, want *model, p int) { m.Copy(7-p, p); want.copy(want, 7-p, p) },
			"Clear": func(m *planes.Map, want *model, p int) { m.Clear(p); want.put(p, "") },
		} {
			m, want := parsed(t, text), modelOf(text)
			for p := range count {
				c, cWant := m.Clone(), want.clone()
				if s := other(c, cWant); s != "" {
					t.Fatalf("of %d: Clone: %s", n, s)
				}
				do(c, cWant, p)
				if s := other(m, want) + other(c, cWant); s != "" {
					t.Fatalf("of %d: %s in the clone: %s", n, name, s)
				}
				do(m, want, p)
				do(c, cWant, (p+1)%count)
				if s := other(m, want) + other(c, cWant); s != "" {
					t.Fatalf("of %d: %s in both: %s", n, name, s)
				}
			}
			check(t, name, m, want)
		}
	}
}

// P9.4, and all of it together

// Kinds of calls.
const (
	callPut = iota
	callCopy
	callClear
	callClone // the clone goes on
	callParse // the map of its text goes on
	callKinds
)

// call is one on a map.
type call struct {
	kind, p, to int
	set         string
}

func (x call) String() string {
	switch x.kind {
	case callPut:
		return fmt.Sprintf("Put(%d, %q)", x.p, x.set)
	case callCopy:
		return fmt.Sprintf("Copy(%d, %d)", x.p, x.to)
	case callClear:
		return fmt.Sprintf("Clear(%d)", x.p)
	case callClone:
		return "Clone"
	}
	return "Parse"
}

// pair is a map and the model of it.
type pair struct {
	m    *planes.Map
	want *model
}

// on makes a call on both; what they answer.
func (q *pair) on(x call) (got, want api.Errno) {
	switch x.kind {
	case callPut:
		return q.m.Put(x.p, x.set), q.want.put(x.p, x.set)
	case callClear:
		return q.m.Clear(x.p), q.want.put(x.p, "")
	case callCopy:
		if x.p < 0 || x.p > 7 || x.to < 0 || x.to > 7 {
			return q.m.Copy(x.p, x.to), api.ErrPlaneAt
		}
		q.want.copy(q.want, x.p, x.to)
		return q.m.Copy(x.p, x.to), api.OK
	case callClone:
		q.m = q.m.Clone()
		return api.OK, api.OK
	}
	q.m, got = planes.Parse(q.m.Text())
	return got, api.OK
}

// hold makes calls on a map and the model, and holds them against each other behind each.
func (q *pair) hold(t testing.TB, calls []call) {
	t.Helper()
	for i, x := range calls {
		was, wasWant := *q, q.want.clone()
		got, want := q.on(x)
		if got != want {
			t.Fatalf("%v: the last one answers %d, not %d", calls[:i+1], got, want)
		}
		if s := other(q.m, q.want); s != "" {
			t.Fatalf("behind %v: %s", calls[:i+1], s)
		}
		// An original that is left behind stays what it was.
		if was.m != q.m {
			fine(t, was.m.Put(i%count, of(1, 7)), wasWant.put(i%count, of(1, 7)))
			if s := other(was.m, wasWant) + other(q.m, q.want); s != "" {
				t.Fatalf("behind %v, of its original: %s", calls[:i+1], s)
			}
		}
	}
	if s := otherDiff(q.m, q.want); s != "" {
		t.Fatalf("behind %v: %s", calls, s)
	}
}

// smallCalls are all calls of a few planes and sets.
func smallCalls() []call {
	l := []call{{kind: callClone}, {kind: callParse}, {callPut, 0, 0, of(0)}, {callPut, 7, 0, of(8)}, {callPut, -1, 0, of(1)}, {callPut, 8, 0, of(1)}, {callCopy, 0, 8, ""}, {callCopy, -1, 0, ""}, {callClear, 8, 0, ""}}
	for _, p := range []int{0, 3, 7} {
		for _, set := range []string{of(1), of(2, 7) + noughts(3)} {
			l = append(l, call{callPut, p, 0, set})
		}
		for _, to := range []int{0, 3, 7} {
			l = append(l, call{callCopy, p, to, ""})
		}
		l = append(l, call{callClear, p, 0, ""})
	}
	return l
}

// TestShortRows: all rows of three calls.
func TestShortRows(t *testing.T) {
	small := smallCalls()
	for _, a := range small {
		for _, b := range small {
			for _, c := range small {
				(&pair{made(t, 8), newModel(8)}).hold(t, []call{a, b, c})
			}
		}
	}
}

// some is a call by chance.
func some(chance *rand.Rand, blocks int) call {
	x := call{kind: chance.Intn(callKinds), p: chance.Intn(count), to: chance.Intn(count)}
	if chance.Intn(12) == 0 {
		x.p = []int{-1, 8, 99}[chance.Intn(3)]
	}
	if chance.Intn(12) == 0 {
		x.to = []int{-1, 8, 99}[chance.Intn(3)]
	}
	if x.kind != callPut {
		return x
	}
	first, end := 1, blocks
	switch chance.Intn(12) {
	case 0:
		first = 0
	case 1:
		end += 2
	}
	var l []int
	for range chance.Intn(blocks) {
		l = append(l, first+chance.Intn(end-first))
	}
	x.set = of(l...) + noughts(chance.Intn(3))
	return x
}

func TestLongRows(t *testing.T) {
	chance := rand.New(rand.NewSource(94))
	for _, n := range []int{8, 9, 20, 64, 300} {
		for range 12 {
			var calls []call
			for range 60 {
				calls = append(calls, some(chance, n))
			}
			(&pair{made(t, n), newModel(n)}).hold(t, calls)
		}
	}
}

// TestParts: base, with what Diff adds, without what it takes, is target; free and used blocks are all but one.
func TestParts(t *testing.T) {
	chance := rand.New(rand.NewSource(49))
	for _, n := range sizes {
		for range 6 {
			m := parsed(t, bytesBy(chance, n))
			used := modelOf(m.Text()).used()
			if m.Used() != used || m.Free()+bitsIn(m.Used()) != n-1 {
				t.Fatalf("of %d: used %q, not %q, free %d", n, m.Used(), used, m.Free())
			}
			base, target := chance.Intn(count), chance.Intn(count)
			adds, takes, e := m.Diff(base, target)
			fine(t, e)
			set := func(p int) []byte {
				s, e := m.Plane(p)
				fine(t, e)
				return []byte(s + noughts(most/8-len(s)))
			}
			now := set(base)
			for i := range len(adds) {
				if now[i]&adds[i] != 0 {
					t.Fatalf("of %d: Diff(%d, %d) adds what is there", n, base, target)
				}
				now[i] |= adds[i]
			}
			for i := range len(takes) {
				if now[i]&takes[i] != takes[i] {
					t.Fatalf("of %d: Diff(%d, %d) takes what is not there", n, base, target)
				}
				now[i] &^= takes[i]
			}
			if !bytes.Equal(now, set(target)) {
				t.Fatalf("of %d: Diff(%d, %d): %q, not %q", n, base, target, now, set(target))
			}
		}
	}
}

// bitsIn is how many numbers a set has.
func bitsIn(set string) int {
	n := 0
	for i := range 8 * len(set) {
		n += int(set[i/8]) >> (i % 8) & 1
	}
	return n
}

func FuzzParse(f *testing.F) {
	for _, s := range []string{"", noughts(7), noughts(8), "\x01" + noughts(9), noughts(3) + "\xff\x80\x01" + noughts(5), noughts(4097)} {
		f.Add(s)
	}
	f.Fuzz(func(t *testing.T, s string) {
		m, e := planes.Parse(s)
		if len(s) < fewest || len(s) > most || s[0] != 0 {
			if m != nil || e != api.ErrPlaneForm {
				t.Fatalf("%q: %v, %d", s, m != nil, e)
			}
			return
		}
		if e != api.OK {
			t.Fatalf("%q: %d", s, e)
		}
		check(t, "Parse", m, modelOf(s))
	})
}

func FuzzCalls(f *testing.F) {
	f.Add(0, "\x00\x00\x02\x01\x00\x03\x02\x03\x00\x04\x00\x00")
	f.Add(12, "\x00\x07\xff\x01\x07\x01\x03\x00\x00\x00\x08\x02")
	f.Fuzz(func(t *testing.T, more int, rows string) {
		n := fewest
		if more > 0 && more <= 300 {
			n += more
		}
		var calls []call
		for ; len(rows) >= 3 && len(calls) < 40; rows = rows[3:] {
			x := call{kind: int(rows[0]) % callKinds, p: int(int8(rows[1])), to: int(int8(rows[2]))}
			if x.kind == callPut {
				x.set = rows[2:min(len(rows), 9)]
			}
			calls = append(calls, x)
		}
		(&pair{made(t, n), newModel(n)}).hold(t, calls)
	})
}

// TestExamples: those of the document.
func TestExamples(t *testing.T) {
	m := made(t, 8)
	if n := m.Free(); n != 7 {
		t.Errorf("free %d", n)
	}
	fine(t, m.Put(0, of(1, 2)), m.Copy(0, 3), m.Put(0, of(2, 5)))
	if m.Used() != of(1, 2, 5) || m.Free() != 4 {
		t.Errorf("used %q, free %d", m.Used(), m.Free())
	}
	if a, b, e := m.Diff(3, 0); a != of(5) || b != of(1) || e != api.OK {
		t.Errorf("%q, %q, %d", a, b, e)
	}
	if e := m.Put(0, of(8)); e != api.ErrPlaneAt {
		t.Errorf("%d", e)
	}
}

// The rules that hold everywhere

// TestMapsApart: maps of one size, and of one text, have nothing to do with each other.
func TestMapsApart(t *testing.T) {
	text := bytesBy(rand.New(rand.NewSource(5)), 20)
	for _, another := range []func() (*planes.Map, *model){
		func() (*planes.Map, *model) { return made(t, 20), newModel(20) },
		func() (*planes.Map, *model) { return parsed(t, text), modelOf(text) },
	} {
		a, aWant := another()
		b, bWant := another()
		fine(t, a.Put(2, of(3, 19)), aWant.put(2, of(3, 19)), b.Clear(5), bWant.put(5, ""))
		check(t, "the one", a, aWant)
		check(t, "the other one", b, bWant)
	}
}

// TestAnswersStay: what was answered is not changed by what is done later.
func TestAnswersStay(t *testing.T) {
	m := parsed(t, "\x00"+strings.Repeat("\xff\x03", 10))
	before := tells(m)
	text, used := m.Text(), m.Used()
	plane, _ := m.Plane(2)
	adds, takes, _ := m.Diff(0, 7)
	all := func() string { return fmt.Sprintf("%q %q %q %q %q", text, used, plane, adds, takes) }
	was := all()
	for p := range count {
		fine(t, m.Put(p, of(p+2)))
	}
	if all() != was || tells(m) == before {
		t.Errorf("%s, not %s", all(), was)
	}
}

// taken is how much memory there is in use.
func taken() uint64 {
	var m runtime.MemStats
	runtime.GC()
	runtime.ReadMemStats(&m)
	return m.HeapAlloc
}

// TestKeepsLittle: not the texts of which a set, or a map's text, is a part.
func TestKeepsLittle(t *testing.T) {
	for name, do := range map[string]func(long string) *planes.Map{
		"Put": func(long string) *planes.Map {
			m := made(t, 64)
			fine(t, m.Put(3, long[1:4]))
			return m
		},
		"Put of noughts": func(long string) *planes.Map {
			m := made(t, 64)
			fine(t, m.Put(3, "\x02"+noughts(len(long))))
			return m
		},
		"Parse": func(long string) *planes.Map { return parsed(t, (noughts(9) + long)[8:20]) },
	} {
		var maps []*planes.Map
		ahead := taken()
		for range 40 {
			maps = append(maps, do(strings.Repeat("b", 1<<20)))
		}
		if now := taken(); now > ahead+10<<20 {
			t.Errorf("%s: %d bytes more", name, now-ahead)
		}
		for _, m := range maps {
			if m.Used() == "" {
				t.Errorf("%s: nothing is used", name)
			}
		}
	}
}
