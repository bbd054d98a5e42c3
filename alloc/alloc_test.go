package alloc_test

import (
	"fmt"
	"math"
	"math/rand"
	"runtime"
	"slices"
	"strings"
	"testing"

	"stillage/alloc"
	"stillage/api"
)

const (
	fewest = 8
	most   = 4096
)

// sizes are how many blocks there are, also such that the last byte of a set is not whole.
var sizes = []int{8, 9, 15, 16, 17, 20, 63, 64, 65, 255, 256, 257, 1000, most - 1, most}

// noughts are so many bytes 0.
func noughts(n int) string { return strings.Repeat("\x00", n) }

// of is the least text of the set of these numbers, by the words of chapter 1.
func of(l ...int) string {
	var set []byte
	for _, n := range l {
		for len(set) <= n/8 {
			set = append(set, 0)
		}
		set[n/8] |= []byte{1, 2, 4, 8, 16, 32, 64, 128}[n%8]
	}
	return string(set)
}

// upTo are the numbers from one on up to another one.
func upTo(from, last int) []int {
	var l []int
	for n := from; n <= last; n++ {
		l = append(l, n)
	}
	return l
}

// isUsed tells whether a set has a number.
func isUsed(used string, n int) bool { return n/8 < len(used) && int(used[n/8])>>(n%8)%2 == 1 }

// inOrder are the free blocks in their order from a place on, by the words of the document.
func inOrder(used string, blocks, from int) []int {
	var l []int
	for n := from; n <= blocks-1; n++ {
		if !isUsed(used, n) {
			l = append(l, n)
		}
	}
	for n := 1; n < from; n++ {
		if !isUsed(used, n) {
			l = append(l, n)
		}
	}
	return l
}

// picked is what Pick answers, by the words of the document.
func picked(used string, blocks, from, many int) ([]int, int, api.Errno) {
	if blocks < 8 || blocks > 4096 || from < 1 || from > blocks || many < 0 {
		return nil, 0, api.ErrAllocAt
	}
	l := inOrder(used, blocks, from)
	if len(l) < many {
		return nil, 0, api.ErrAllocFull
	}
	if many == 0 {
		return nil, from, api.OK
	}
	return l[:many], l[many-1] + 1, api.OK
}

// checkPick fails if Pick answers something else than the document asks.
func checkPick(t testing.TB, used string, blocks, from, many int) {
	t.Helper()
	l, next, e := alloc.Pick(used, blocks, from, many)
	want, wantNext, wantE := picked(used, blocks, from, many)
	if !slices.Equal(l, want) || next != wantNext || e != wantE {
		t.Fatalf("Pick(%q, %d, %d, %d): %d, %d, %d, not %d, %d, %d", used, blocks, from, many, l, next, e, want, wantNext, wantE)
	}
}

// pool is one that may be.
func pool(t testing.TB, used string, blocks, from int) *alloc.Pool {
	t.Helper()
	p, e := alloc.New(used, blocks, from)
	if p == nil || e != api.OK {
		t.Fatalf("New(%q, %d, %d): %d", used, blocks, from, e)
	}
	return p
}

// tells fails if a pool tells something else than these are.
func tells(t testing.TB, name string, p *alloc.Pool, left int, taken string, next int) {
	t.Helper()
	if p.Left() != left || p.Taken() != taken || p.Next() != next {
		t.Fatalf("%s: left %d, taken %q, next %d, not %d, %q, %d", name, p.Left(), p.Taken(), p.Next(), left, taken, next)
	}
}

// checkPool takes all that a pool has, and more, and fails if it answers something else than the document asks.
func checkPool(t testing.TB, used string, blocks, from int) {
	t.Helper()
	name := fmt.Sprintf("New(%q, %d, %d)", used, blocks, from)
	p, want := pool(t, used, blocks, from), inOrder(used, blocks, from)
	tells(t, name, p, len(want), "", from)
	next := from
	for i, block := range want {
		n, e := p.Take()
		if n != block || e != api.OK {
			t.Fatalf("%s: Take %d: %d, %d, not %d", name, i, n, e, block)
		}
		next = block + 1
		tells(t, name, p, len(want)-i-1, of(want[:i+1]...), next)
	}
	for range 3 {
		if n, e := p.Take(); n != 0 || e != api.ErrAllocFull {
			t.Fatalf("%s: Take of none: %d, %d", name, n, e)
		}
		tells(t, name, p, 0, of(want...), next)
	}
}

// setBy is a set by chance of numbers from 0 on, of which few, some, most or all are below a number of blocks.
func setBy(chance *rand.Rand, blocks int) string {
	var l []int
	one := 1 + chance.Intn(6)
	for n := range blocks + 20 {
		if chance.Intn(6) < one {
			l = append(l, n)
		}
	}
	return of(l...) + noughts(chance.Intn(3))
}

// froms are places among so many blocks: the edges, and some between.
func froms(chance *rand.Rand, blocks int) []int {
	return []int{1, 2, 7, 8, blocks/2 - 1, blocks / 2, blocks - 2, blocks - 1, blocks, 1 + chance.Intn(blocks), 1 + chance.Intn(blocks)}
}

// P10.1

func TestPick(t *testing.T) {
	used := of(1, 3)
	for _, x := range []struct {
		from, many int
		want       []int
		next       int
	}{
		{3, 0, nil, 3},
		{3, 1, []int{4}, 5},
		{3, 3, []int{4, 5, 6}, 7},
		{3, 4, []int{4, 5, 6, 7}, 8},
		{3, 5, []int{4, 5, 6, 7, 2}, 3},
		{1, 0, nil, 1},
		{1, 1, []int{2}, 3},
		{1, 5, []int{2, 4, 5, 6, 7}, 8},
		{2, 2, []int{2, 4}, 5},
		{2, 5, []int{2, 4, 5, 6, 7}, 8},
		{4, 5, []int{4, 5, 6, 7, 2}, 3},
		{5, 5, []int{5, 6, 7, 2, 4}, 5},
		{6, 3, []int{6, 7, 2}, 3},
		{7, 1, []int{7}, 8},
		{7, 5, []int{7, 2, 4, 5, 6}, 7},
		{8, 0, nil, 8},
		{8, 1, []int{2}, 3},
		{8, 5, []int{2, 4, 5, 6, 7}, 8},
	} {
		if l, next, e := alloc.Pick(used, 8, x.from, x.many); !slices.Equal(l, x.want) || next != x.next || e != api.OK {
			t.Errorf("Pick from %d, %d: %d, %d, %d, not %d, %d", x.from, x.many, l, next, e, x.want, x.next)
		}
	}
}

// TestPickOfSmallSets: all sets of the blocks that there are, from each place on, each number of blocks.
func TestPickOfSmallSets(t *testing.T) {
	for _, blocks := range []int{8, 9, 10} {
		for bits := range 1 << blocks {
			used := string([]byte{byte(bits), byte(bits >> 8)})
			for from := 0; from <= blocks+1; from++ {
				for many := -1; many <= blocks+1; many++ {
					checkPick(t, used, blocks, from, many)
				}
			}
		}
	}
}

func TestPickOfAllSizes(t *testing.T) {
	chance := rand.New(rand.NewSource(10))
	for _, blocks := range sizes {
		all := of(upTo(0, blocks-1)...)
		for _, used := range []string{"", all, of(upTo(1, blocks-2)...), of(upTo(2, blocks-1)...), of(upTo(1, blocks/2)...), of(upTo(blocks/2, blocks-1)...), setBy(chance, blocks), setBy(chance, blocks), setBy(chance, blocks)} {
			for _, from := range froms(chance, blocks) {
				n := len(inOrder(used, blocks, from))
				for _, many := range []int{0, 1, 2, 3, n / 2, n - 2, n - 1, n, n + 1, blocks - 1, blocks} {
					checkPick(t, used, blocks, from, many)
				}
			}
		}
	}
}

// wrongPlaces are numbers of blocks, and places among them, one of which may not be.
func wrongPlaces() [][2]int {
	var l [][2]int
	for _, blocks := range []int{7, 6, 1, 0, -1, -7, -8, -9, -4096, 4097, 4098, 8192, 65535, 65536, 1 << 32, 1<<32 + 8, -1<<32 + 8, 1 << 62, math.MinInt, math.MinInt + 8, math.MaxInt} {
		for _, from := range []int{1, 2, 0, -1, 7, 8, blocks - 1, blocks, blocks + 1} {
			l = append(l, [2]int{blocks, from})
		}
	}
	for _, blocks := range sizes {
		for _, from := range []int{0, -1, -2, -8, -4096, -blocks, blocks + 1, blocks + 2, blocks + 8, 2 * blocks, 65536, 1 << 32, 1<<32 + 1, -1<<32 + 1, 1 << 62, math.MinInt, math.MinInt + 1, math.MaxInt} {
			l = append(l, [2]int{blocks, from})
		}
	}
	return l
}

// TestPickOfWrongPlaces: what may not be is told ahead of blocks that are not free.
func TestPickOfWrongPlaces(t *testing.T) {
	full := strings.Repeat("\xff", most/8)
	for _, x := range wrongPlaces() {
		for _, used := range []string{"", of(1, 3), full} {
			for _, many := range []int{0, 1, 5, most, -1, math.MaxInt, math.MinInt} {
				if l, next, e := alloc.Pick(used, x[0], x[1], many); l != nil || next != 0 || e != api.ErrAllocAt {
					t.Fatalf("Pick of %d blocks from %d, %d: %d, %d, %d", x[0], x[1], many, l, next, e)
				}
			}
		}
	}
	for _, many := range []int{-1, -2, -8, -4096, -1 << 32, -1<<32 + 1, math.MinInt, math.MinInt + 1} {
		for _, blocks := range sizes {
			for _, used := range []string{"", of(1, 3), full} {
				if l, next, e := alloc.Pick(used, blocks, 3, many); l != nil || next != 0 || e != api.ErrAllocAt {
					t.Fatalf("Pick of %d blocks, %d: %d, %d, %d", blocks, many, l, next, e)
				}
			}
		}
	}
}

// TestPickOfTooMany: one more than there are, and far more.
func TestPickOfTooMany(t *testing.T) {
	for _, blocks := range sizes {
		for free := range 5 {
			used := of(upTo(1+free, blocks-1)...)
			for _, from := range []int{1, 1 + free, blocks} {
				if l, _, e := alloc.Pick(used, blocks, from, free); len(l) != free || e != api.OK {
					t.Errorf("of %d blocks, %d free, from %d: %d, %d", blocks, free, from, l, e)
				}
				for _, many := range []int{free + 1, free + 2, blocks - 1, blocks, blocks + 1, 65536, 1 << 32, 1<<32 + 1, 1 << 62, math.MaxInt} {
					if l, next, e := alloc.Pick(used, blocks, from, many); l != nil || next != 0 || e != api.ErrAllocFull {
						t.Errorf("of %d blocks, %d free, from %d, %d: %d, %d, %d", blocks, free, from, many, l, next, e)
					}
				}
			}
		}
	}
}

// TestPickOfOtherNumbers: block 0, numbers beyond the last block, and bytes 0 behind a set change nothing.
func TestPickOfOtherNumbers(t *testing.T) {
	chance := rand.New(rand.NewSource(101))
	for _, blocks := range sizes {
		for _, used := range []string{"", of(1, 3), of(blocks - 1), of(upTo(1, blocks-1)...), of(upTo(1, blocks-3)...)} {
			for _, more := range [][]int{{0}, {blocks}, {0, blocks, blocks + 1}, upTo(blocks, blocks+99), {4096}, {65535}, {65536, 100000}, {1 << 20}} {
				other := []byte(used + noughts(1<<17+2))
				for _, n := range more {
					other[n/8] |= 1 << (n % 8)
				}
				for _, from := range froms(chance, blocks) {
					many := chance.Intn(3)
					l, next, e := alloc.Pick(string(other), blocks, from, many)
					want, wantNext, wantE := picked(used, blocks, from, many)
					if !slices.Equal(l, want) || next != wantNext || e != wantE {
						t.Fatalf("of %d blocks, from %d, %d, with %d: %d, %d, %d, not %d, %d, %d", blocks, from, many, more, l, next, e, want, wantNext, wantE)
					}
				}
			}
		}
	}
}

// P10.2

func TestPool(t *testing.T) {
	p := pool(t, of(1, 3), 8, 6)
	tells(t, "at first", p, 5, "", 6)
	for _, x := range []struct {
		block, left int
		taken       string
		next        int
	}{
		{6, 4, "\x40", 7},
		{7, 3, "\xc0", 8},
		{2, 2, "\xc4", 3},
		{4, 1, "\xd4", 5},
		{5, 0, "\xf4", 6},
	} {
		if n, e := p.Take(); n != x.block || e != api.OK {
			t.Fatalf("Take: %d, %d, not %d", n, e, x.block)
		}
		tells(t, fmt.Sprintf("behind %d", x.block), p, x.left, x.taken, x.next)
	}
	for range 3 {
		if n, e := p.Take(); n != 0 || e != api.ErrAllocFull {
			t.Errorf("Take of none: %d, %d", n, e)
		}
		tells(t, "of none", p, 0, "\xf4", 6)
	}
}

func TestNewOfWrongPlaces(t *testing.T) {
	full := strings.Repeat("\xff", most/8)
	for _, x := range wrongPlaces() {
		for _, used := range []string{"", of(1, 3), full} {
			if p, e := alloc.New(used, x[0], x[1]); p != nil || e != api.ErrAllocAt {
				t.Errorf("New of %d blocks from %d: %v, %d", x[0], x[1], p != nil, e)
			}
		}
	}
}

// TestPoolOfSmallSets: all sets of the blocks that there are, from each place on.
func TestPoolOfSmallSets(t *testing.T) {
	for _, blocks := range []int{8, 9, 10} {
		for bits := range 1 << blocks {
			for from := 1; from <= blocks; from++ {
				checkPool(t, string([]byte{byte(bits), byte(bits >> 8)}), blocks, from)
			}
		}
	}
}

func TestPoolOfAllSizes(t *testing.T) {
	chance := rand.New(rand.NewSource(102))
	for _, blocks := range sizes {
		last := max(1, blocks-60)
		for _, used := range []string{"", of(upTo(0, blocks-1)...), of(blocks - 1), of(upTo(1, last)...), of(upTo(30, blocks-30)...), setBy(chance, blocks), of(upTo(1, blocks+9)...), strings.Repeat("\xf7\xff\xff\xff", 1<<12)} {
			if blocks > 300 && len(inOrder(used, blocks, 1)) > 200 {
				continue // TestPoolOfMany takes so many.
			}
			for _, from := range froms(chance, blocks) {
				checkPool(t, used, blocks, from)
			}
		}
	}
}

// TestPoolOfMany: all of the most blocks that there may be are taken, each once.
func TestPoolOfMany(t *testing.T) {
	chance := rand.New(rand.NewSource(103))
	for _, blocks := range []int{1000, most - 1, most} {
		for _, used := range []string{"", of(0, 1, blocks), setBy(chance, blocks)} {
			for _, from := range froms(chance, blocks) {
				p, want := pool(t, used, blocks, from), inOrder(used, blocks, from)
				for i, block := range want {
					if n, e := p.Take(); n != block || e != api.OK || p.Left() != len(want)-i-1 || p.Next() != block+1 {
						t.Fatalf("of %d blocks from %d, Take %d: %d, %d, not %d; left %d, next %d", blocks, from, i, n, e, block, p.Left(), p.Next())
					}
				}
				tells(t, "behind all", p, 0, of(want...), want[len(want)-1]+1)
			}
		}
	}
}

// TestPoolAsked: what a pool tells changes nothing, however often it is asked, or not at all.
func TestPoolAsked(t *testing.T) {
	used := of(2, 3, 9, 15)
	a, b := pool(t, used, 20, 7), pool(t, used, 20, 7)
	for range 16 {
		for range 3 {
			a.Left()
			a.Taken()
			a.Next()
		}
		n, e := a.Take()
		if m, f := b.Take(); n != m || e != f {
			t.Errorf("%d, %d, not %d, %d", n, e, m, f)
		}
	}
	tells(t, "the one that was asked", a, b.Left(), b.Taken(), b.Next())
}

// P10.3

// TestPickIsTakes: a Pick of any number, and several of them, with what was picked ahead used, are as many Takes.
func TestPickIsTakes(t *testing.T) {
	chance := rand.New(rand.NewSource(104))
	for _, blocks := range []int{8, 9, 20, 64, 257} {
		for range 60 {
			used, from := setBy(chance, blocks), 1+chance.Intn(blocks)
			p := pool(t, used, blocks, from)
			now, next := []byte(used+noughts(most/8)), from
			for p.Left() > 0 {
				many := chance.Intn(p.Left() + 1)
				l, behind, e := alloc.Pick(string(now), blocks, next, many)
				if e != api.OK || len(l) != many {
					t.Fatalf("Pick(%q, %d, %d, %d): %d, %d", now, blocks, next, many, l, e)
				}
				for _, want := range l {
					if n, e := p.Take(); n != want || e != api.OK {
						t.Fatalf("Take behind %q: %d, %d, not %d", now, n, e, want)
					}
					if isUsed(string(now), want) || want < 1 || want >= blocks {
						t.Fatalf("%d is not free in %q", want, now)
					}
					now[want/8] |= 1 << (want % 8)
				}
				next = behind
				if p.Next() != next {
					t.Fatalf("next %d, not %d", p.Next(), next)
				}
			}
			if l, _, e := alloc.Pick(string(now), blocks, next, 1); l != nil || e != api.ErrAllocFull {
				t.Fatalf("Pick of none: %d, %d", l, e)
			}
			if n, e := p.Take(); n != 0 || e != api.ErrAllocFull {
				t.Fatalf("Take of none: %d, %d", n, e)
			}
		}
	}
}

func FuzzPick(f *testing.F) {
	f.Add("\x0a", 8, 3, 4)
	f.Add("\x0a", 8, 3, 6)
	f.Add("", 4096, 4096, 4095)
	f.Add("\xff\xff\xff", 7, 0, -1)
	f.Add(noughts(600)+"\xff", 4097, 1, 1)
	f.Fuzz(func(t *testing.T, used string, blocks, from, many int) {
		checkPick(t, used, blocks, from, many)
		if _, _, e := picked(used, blocks, from, 0); e == api.OK {
			checkPool(t, used, blocks, from)
		} else if p, e := alloc.New(used, blocks, from); p != nil || e != api.ErrAllocAt {
			t.Fatalf("New(%q, %d, %d): %v, %d", used, blocks, from, p != nil, e)
		}
	})
}

// TestExamples: those of the document.
func TestExamples(t *testing.T) {
	used := of(1, 3)
	if l, next, e := alloc.Pick(used, 8, 3, 4); !slices.Equal(l, []int{4, 5, 6, 7}) || next != 8 || e != api.OK {
		t.Errorf("%d, %d, %d", l, next, e)
	}
	if l, next, e := alloc.Pick(used, 8, 3, 5); !slices.Equal(l, []int{4, 5, 6, 7, 2}) || next != 3 || e != api.OK {
		t.Errorf("%d, %d, %d", l, next, e)
	}
	if l, next, e := alloc.Pick(used, 8, 3, 6); l != nil || next != 0 || e != api.ErrAllocFull {
		t.Errorf("%d, %d, %d", l, next, e)
	}
}

// The rules that hold everywhere

// TestPoolsApart: pools of one set have nothing to do with each other.
func TestPoolsApart(t *testing.T) {
	used := of(1, 3)
	a, b := pool(t, used, 8, 6), pool(t, used, 8, 6)
	for _, want := range []int{6, 7, 2} {
		if n, e := a.Take(); n != want || e != api.OK {
			t.Fatalf("%d, %d, not %d", n, e, want)
		}
	}
	tells(t, "the other one", b, 5, "", 6)
	if n, e := b.Take(); n != 6 || e != api.OK {
		t.Errorf("%d, %d", n, e)
	}
	tells(t, "the one", a, 2, of(2, 6, 7), 3)
	tells(t, "the other one", b, 4, of(6), 7)
}

// TestAnswersStay: what was answered is not changed by what is done later, nor is anything by what becomes of it.
func TestAnswersStay(t *testing.T) {
	p := pool(t, "", 20, 5)
	p.Take()
	taken := p.Taken()
	first, _, _ := alloc.Pick("", 20, 5, 4)
	second, _, _ := alloc.Pick("", 20, 5, 4)
	room := first[:cap(first)]
	for i := range room {
		room[i] = 99
	}
	p.Take()
	if taken != of(5) || !slices.Equal(second, []int{5, 6, 7, 8}) || p.Taken() != of(5, 6) {
		t.Errorf("%q, %d, %q", taken, second, p.Taken())
	}
	checkPick(t, "", 20, 5, 4)
}

// takenUp is how much memory there is in use.
func takenUp() uint64 {
	var m runtime.MemStats
	runtime.GC()
	runtime.ReadMemStats(&m)
	return m.HeapAlloc
}

// TestKeepsLittle: not the text that was handed in, nor one of which it is a part.
func TestKeepsLittle(t *testing.T) {
	for name, do := range map[string]func(long string) *alloc.Pool{
		"a long text":           func(long string) *alloc.Pool { return pool(t, long, 64, 9) },
		"a part of a long text": func(long string) *alloc.Pool { return pool(t, long[1:4], 64, 9) },
	} {
		var pools []*alloc.Pool
		ahead := takenUp()
		for range 40 {
			pools = append(pools, do(strings.Repeat("b", 1<<20)))
		}
		if now := takenUp(); now > ahead+10<<20 {
			t.Errorf("%s: %d bytes more", name, now-ahead)
		}
		for _, p := range pools {
			if n, e := p.Take(); n < 9 || e != api.OK {
				t.Errorf("%s: %d, %d", name, n, e)
			}
		}
	}
}
