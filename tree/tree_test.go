package tree_test

import (
	"encoding/binary"
	"fmt"
	"math"
	"math/rand"
	"slices"
	"strings"
	"testing"

	"stillage/alloc"
	"stillage/api"
	"stillage/blocks"
	"stillage/disk"
	"stillage/tree"
)

const (
	most    = 16384 // bytes of a tree
	chunk   = 240
	perFork = 60 // pointers of a pointer block
)

// sizes are how many bytes the tested trees have: the edges, and some between.
var sizes = []int{
	0, 1, 2, 239, 240, 241, 300, 479, 480, 481, 719, 720, 721, 5000,
	58*chunk + 1, 59 * chunk, 59*chunk + 1, 60*chunk - 1, 60 * chunk, 60*chunk + 1, 61*chunk - 1, 61 * chunk, 61*chunk + 1, 62 * chunk,
	68 * chunk, 68*chunk + 1, most - 1, most,
}

// wrongSizes are such that no tree has.
var wrongSizes = []int{-1, -2, -240, -16384, most + 1, most + 2, 60 * 60 * 240, 60*60*240 + 1, 65536, 1 << 32, 1<<32 + 1, -1 << 32, -1<<32 + 240, 1 << 62, math.MinInt, math.MinInt + 1, math.MaxInt}

// errnos are such that a Read or a Write may answer.
var errnos = []api.Errno{api.ErrIO, api.ErrDead, api.ErrBlockSum, api.ErrBlockAt, api.ErrArg, -1, 9999}

// text is one of so many bytes, no chunk of which is like another one.
func text(n, seed int) string {
	b := make([]byte, n)
	for i := range b {
		b[i] = byte(seed*31 + i*7 + i/chunk*13 + i/256)
	}
	return string(b)
}

// changed is a text with another byte in one place.
func changed(s string, at int) string {
	b := []byte(s)
	b[at] ^= 1
	return string(b)
}

// part is a block, and what it carries.
type part struct {
	vbn     int
	payload string
}

// model is a tree by the words of the document: its chunks, its pointer blocks, and its root, if that is another one.
type model struct {
	chunks, pointers, root []part
}

// cut are bytes in chunks.
func cut(data string) []string {
	var l []string
	for len(data) > chunk {
		l = append(l, data[:chunk])
		data = data[chunk:]
	}
	if data != "" {
		l = append(l, data)
	}
	return l
}

// pointing is the payload of a pointer block.
func pointing(to []part) string {
	var b []byte
	for _, p := range to {
		b = binary.LittleEndian.AppendUint32(b, uint32(p.vbn))
	}
	return string(b)
}

// place is where a block stands: in a tree of so many rows, in one of these (chunks are the first one), as the i-th one.
type place struct{ rows, row, i int }

// modelled is the tree of some bytes; put tells the block of a payload, of which it is told where it stands.
func modelled(data string, put func(at place, payload string) int) *model {
	m := &model{}
	chunks := cut(data)
	for i, s := range chunks {
		// Chunks are held against each other whatever the tree's height.
		m.chunks = append(m.chunks, part{put(place{row: 1, i: i}, s), s})
	}
	switch n := len(chunks); {
	case n > perFork:
		for i, l := range [][]part{m.chunks[:perFork], m.chunks[perFork:]} {
			s := pointing(l)
			m.pointers = append(m.pointers, part{put(place{3, 2, i}, s), s})
		}
		s := pointing(m.pointers)
		m.root = []part{{put(place{3, 3, 0}, s), s}}
	case n > 1:
		s := pointing(m.chunks)
		m.pointers = []part{{put(place{2, 2, 0}, s), s}}
	}
	return m
}

// inOrder are the blocks in the order in which they are read.
func (m *model) inOrder() []part {
	switch {
	case m.root != nil:
		l := slices.Concat(m.root, m.pointers[:1], m.chunks[:perFork])
		return slices.Concat(l, m.pointers[1:], m.chunks[perFork:])
	case m.pointers != nil:
		return slices.Concat(m.pointers, m.chunks)
	}
	return m.chunks
}

// isChunk tells whether a block of the model is one.
func (m *model) isChunk(p part) bool { return slices.Contains(m.chunks, p) }

func (m *model) blob() api.Blob {
	if len(m.chunks) == 0 {
		return api.Blob{}
	}
	size := 0
	for _, p := range m.chunks {
		size += len(p.payload)
	}
	return api.Blob{Root: m.inOrder()[0].vbn, Size: size}
}

// numbers are those of some blocks.
func numbers(l []part) []int {
	var n []int
	for _, p := range l {
		n = append(n, p.vbn)
	}
	return n
}

// shelf is a target that notes what is read and written, and fails where it shall.
type shelf struct {
	blocks            map[int]string
	badRead, badWrite map[int]api.Errno
	read              []int
	written           []part
}

var _ api.Target = (*shelf)(nil)

func newShelf() *shelf {
	return &shelf{blocks: map[int]string{}, badRead: map[int]api.Errno{}, badWrite: map[int]api.Errno{}}
}

func (s *shelf) Read(vbn int) (string, api.Errno) {
	s.read = append(s.read, vbn)
	if e := s.badRead[vbn]; e != api.OK {
		return "what is told beside an error", e
	}
	payload, ok := s.blocks[vbn]
	if !ok {
		return "", api.ErrBlockAt
	}
	return payload, api.OK
}

func (s *shelf) Write(vbn int, payload string) api.Errno {
	if e := s.badWrite[vbn]; e != api.OK {
		return e
	}
	s.blocks[vbn] = payload
	s.written = append(s.written, part{vbn, payload})
	return api.OK
}

// forget lets a shelf note anew.
func (s *shelf) forget() { s.read, s.written = nil, nil }

// laid lays the tree of some bytes in blocks of these numbers, or, behind the last one, of those from 1000 on.
func (s *shelf) laid(data string, vbns ...int) *model {
	next := 1000
	return modelled(data, func(_ place, payload string) int {
		vbn := next
		if len(vbns) > 0 {
			vbn, vbns = vbns[0], vbns[1:]
		} else {
			next++
		}
		s.blocks[vbn] = payload
		return vbn
	})
}

// byChance lays the tree of some bytes in blocks of any numbers that have room in a pointer.
func (s *shelf) byChance(chance *rand.Rand, data string) *model {
	var vbns []int
	for _, n := range chance.Perm(72) {
		vbns = append(vbns, []int{n, n << 8, n << 16, n<<24 + 1, math.MaxUint32 - n}[chance.Intn(5)])
	}
	slices.Sort(vbns)
	vbns = slices.Compact(vbns)
	// The root of some bytes is never 0.
	vbns = slices.DeleteFunc(vbns, func(n int) bool { return n == 0 && data != "" })
	chance.Shuffle(len(vbns), func(i, j int) { vbns[i], vbns[j] = vbns[j], vbns[i] })
	return s.laid(data, vbns...)
}

// loads fails if Load answers something else, or reads something else, in another order.
func loads(t testing.TB, name string, s *shelf, b api.Blob, want string, wantE api.Errno, read []int) {
	t.Helper()
	s.forget()
	data, e := tree.Load(s, b)
	if data != want || e != wantE {
		t.Fatalf("%s: Load: %d bytes, %d, not %d, %d", name, len(data), e, len(want), wantE)
	}
	if !slices.Equal(s.read, read) || s.written != nil {
		t.Fatalf("%s: Load: read %d, written %d, not %d", name, s.read, numbers(s.written), read)
	}
}

// reaches fails if Reach does.
func reaches(t testing.TB, name string, s *shelf, b api.Blob, want []int, wantE api.Errno, read []int) {
	t.Helper()
	s.forget()
	l, e := tree.Reach(s, b)
	if !slices.Equal(l, want) || e != wantE {
		t.Fatalf("%s: Reach: %d, %d, not %d, %d", name, l, e, want, wantE)
	}
	if !slices.Equal(s.read, read) || s.written != nil {
		t.Fatalf("%s: Reach: read %d, written %d, not %d", name, s.read, numbers(s.written), read)
	}
}

// forks are the numbers of the blocks of a list that are no chunks of the model.
func (m *model) forks(l []part) []int {
	return numbers(slices.DeleteFunc(slices.Clone(l), m.isChunk))
}

// pool is one of the blocks of these numbers, in this order: they rise, or rise and begin anew once.
func pool(t testing.TB, free ...int) *alloc.Pool {
	t.Helper()
	many, from := 8, 1
	if len(free) > 0 {
		many, from = max(many, slices.Max(free)+1), free[0]
	}
	used := []byte(strings.Repeat("\xff", 512))
	for _, vbn := range free {
		used[vbn/8] &^= 1 << (vbn % 8)
	}
	p, e := alloc.New(string(used), many, from)
	fine(t, e)
	if p.Left() != len(free) {
		t.Fatalf("%d are left, not %d", p.Left(), len(free))
	}
	return p
}

// fine fails if one of some calls was not answered OK.
func fine(t testing.TB, answers ...api.Errno) {
	t.Helper()
	for i, e := range answers {
		if e != api.OK {
			t.Fatalf("call %d: %d", i, e)
		}
	}
}

// upTo are the numbers from one on up to another one.
func upTo(from, last int) []int {
	var l []int
	for n := from; n <= last; n++ {
		l = append(l, n)
	}
	return l
}

// stored is what Store does, by the words of the document: the new tree, and what is written. Behind the last free block there is the block -1.
func stored(old *model, data string, free []int) (*model, []part) {
	had := map[place]part{}
	parts := slices.Concat(old.chunks, old.pointers, old.root)
	modelled(oldBytes(old), func(at place, _ string) int {
		had[at] = parts[len(had)]
		return had[at].vbn
	})
	var written []part
	return modelled(data, func(at place, payload string) int {
		if p, ok := had[at]; ok && p.payload == payload {
			return p.vbn
		}
		p := part{-1, payload}
		if n := len(written); n < len(free) {
			p.vbn = free[n]
		}
		written = append(written, p)
		return p.vbn
	}), written
}

// oldBytes are those of a tree.
func oldBytes(m *model) string {
	var s strings.Builder
	for _, p := range m.chunks {
		s.WriteString(p.payload)
	}
	return s.String()
}

// stores stores bytes over an old tree, and fails if Store does something else than the document says; it tells the new tree.
func stores(t testing.TB, name string, s *shelf, old *model, data string, free []int) *model {
	t.Helper()
	want, written := stored(old, data, free)
	ahead := contents(s, old)
	p := pool(t, free...)
	s.forget()
	b, e := tree.Store(s, old.blob(), data, p)
	if b != want.blob() || e != api.OK {
		t.Fatalf("%s: Store: %d, %d, not %d", name, b, e, want.blob())
	}
	if !slices.Equal(s.written, written) {
		t.Fatalf("%s: Store: written %d, not %d", name, numbers(s.written), numbers(written))
	}
	if !slices.Equal(s.read, numbers(old.inOrder())) {
		t.Fatalf("%s: Store: read %d, not %d", name, s.read, numbers(old.inOrder()))
	}
	if p.Left() != len(free)-len(written) {
		t.Fatalf("%s: %d are left of %d, not %d", name, p.Left(), len(free), len(free)-len(written))
	}
	loads(t, name, s, b, data, api.OK, numbers(want.inOrder()))
	reaches(t, name, s, b, numbers(want.inOrder()), api.OK, want.forks(want.inOrder()))
	if !slices.Equal(contents(s, old), ahead) {
		t.Fatalf("%s: the old blocks are not what they were", name)
	}
	return want
}

// contents are what the blocks of a tree carry.
func contents(s *shelf, m *model) []string {
	var l []string
	for _, p := range m.inOrder() {
		l = append(l, s.blocks[p.vbn])
	}
	return l
}

// P11.1

func TestShape(t *testing.T) {
	for size, want := range map[int]int{0: 0, 1: 1, 239: 1, 240: 1, 241: 3, 480: 3, 481: 4, 14160: 60, 14161: 61, 14399: 61, 14400: 61, 14401: 64, 14640: 64, 14641: 65, 16320: 71, 16321: 72, 16383: 72, 16384: 72} {
		if n, e := tree.Shape(size); n != want || e != api.OK {
			t.Errorf("%d: %d, %d, not %d", size, n, e, want)
		}
	}
}

// TestShapeOfAll: of each size as many as there are in the tree by the words of the document.
func TestShapeOfAll(t *testing.T) {
	data := text(most, 1)
	for size := 0; size <= most; size++ {
		want := len(modelled(data[:size], func(place, string) int { return 1 }).inOrder())
		if n, e := tree.Shape(size); n != want || e != api.OK {
			t.Fatalf("%d: %d, %d, not %d", size, n, e, want)
		}
	}
}

func TestShapeOfWrongSizes(t *testing.T) {
	for _, size := range wrongSizes {
		if n, e := tree.Shape(size); n != 0 || e != api.ErrTreeLong {
			t.Errorf("%d: %d, %d", size, n, e)
		}
	}
}

// P11.2

// TestLoadAndReach: trees in blocks of all kinds of numbers.
func TestLoadAndReach(t *testing.T) {
	chance := rand.New(rand.NewSource(11))
	for _, size := range sizes {
		for seed := range 8 {
			s := newShelf()
			data := text(size, seed)
			m := s.byChance(chance, data)
			name := fmt.Sprint(size, " bytes, ", seed)
			loads(t, name, s, m.blob(), data, api.OK, numbers(m.inOrder()))
			reaches(t, name, s, m.blob(), numbers(m.inOrder()), api.OK, m.forks(m.inOrder()))
		}
	}
}

// TestLoadOfBytesOfAllKinds: a tree has any bytes, and many chunks may be like each other, also in one block.
func TestLoadOfBytesOfAllKinds(t *testing.T) {
	for _, size := range sizes {
		for _, c := range []string{"\x00", "\xff", "a"} {
			s := newShelf()
			data := strings.Repeat(c, size)
			m := s.laid(data)
			loads(t, fmt.Sprint(size), s, m.blob(), data, api.OK, numbers(m.inOrder()))
		}
	}
	s := newShelf()
	s.blocks[5] = strings.Repeat("a", chunk)
	s.blocks[6] = pointing([]part{{vbn: 5}, {vbn: 5}, {vbn: 5}})
	loads(t, "one chunk thrice", s, api.Blob{Root: 6, Size: 3 * chunk}, strings.Repeat("a", 3*chunk), api.OK, []int{6, 5, 5, 5})
	reaches(t, "one chunk thrice", s, api.Blob{Root: 6, Size: 3 * chunk}, []int{6, 5, 5, 5}, api.OK, []int{6})
}

// TestRoots: a root is asked of the source, whatever its number; Reach tells it as it is.
func TestRoots(t *testing.T) {
	for _, root := range []int{1, 4095, 4096, 65535, 65536, 1 << 32, 1<<32 + 5, 1 << 62, math.MaxInt, -1, -5, math.MinInt} {
		s := newShelf()
		b := api.Blob{Root: root, Size: 3}
		loads(t, "none there", s, b, "", api.ErrBlockAt, []int{root})
		reaches(t, "none there", s, b, []int{root}, api.OK, nil)
		s.blocks[root] = "abc"
		loads(t, "there", s, b, "abc", api.OK, []int{root})
		s.blocks[root], s.blocks[9], s.blocks[7] = pointing([]part{{vbn: 9}, {vbn: 7}}), text(chunk, 1), text(5, 2)
		loads(t, "of pointers", s, api.Blob{Root: root, Size: chunk + 5}, text(chunk, 1)+text(5, 2), api.OK, []int{root, 9, 7})
		reaches(t, "of pointers", s, api.Blob{Root: root, Size: chunk + 5}, []int{root, 9, 7}, api.OK, []int{root})
	}
}

// TestWrongBlobs: nothing is read of a blob that may not be.
func TestWrongBlobs(t *testing.T) {
	var l []api.Blob
	for _, size := range wrongSizes {
		for _, root := range []int{0, 1, 5, -1, 4096, math.MaxInt, math.MinInt} {
			l = append(l, api.Blob{Root: root, Size: size})
		}
	}
	for _, size := range sizes[1:] {
		l = append(l, api.Blob{Size: size})
	}
	for _, root := range []int{1, 5, 4095, 1 << 32, math.MaxInt, -1, math.MinInt} {
		l = append(l, api.Blob{Root: root})
	}
	for _, b := range l {
		s := newShelf()
		s.blocks[0], s.blocks[5], s.badRead[1] = "abc", "", api.ErrIO
		name := fmt.Sprint(b)
		loads(t, name, s, b, "", api.ErrTreeForm, nil)
		reaches(t, name, s, b, nil, api.ErrTreeForm, nil)
		p := pool(t, 7, 8, 9)
		if c, e := tree.Store(s, b, "data", p); c != (api.Blob{}) || e != api.ErrTreeForm || p.Left() != 3 || s.written != nil {
			t.Errorf("%s: Store: %d, %d, %d left, written %d", name, c, e, p.Left(), numbers(s.written))
		}
	}
}

// faulty holds Load, Reach and Store over the tree against an error of its block at a place: no more is read than up to it.
func faulty(t *testing.T, name string, s *shelf, m *model, place int, want api.Errno) {
	t.Helper()
	l := m.inOrder()
	loads(t, name, s, m.blob(), "", want, numbers(l[:place+1]))
	if m.isChunk(l[place]) {
		reaches(t, name, s, m.blob(), numbers(l), api.OK, m.forks(l))
	} else {
		reaches(t, name, s, m.blob(), nil, want, m.forks(l[:place+1]))
	}
	for _, data := range []string{"", "x", oldBytes(m)} {
		for _, free := range [][]int{nil, upTo(1, 99)} {
			s.forget()
			p := pool(t, free...)
			b, e := tree.Store(s, m.blob(), data, p)
			if b != (api.Blob{}) || e != want || p.Left() != len(free) || s.written != nil || !slices.Equal(s.read, numbers(l[:place+1])) {
				t.Fatalf("%s: Store: %d, %d, %d left, written %d, read %d", name, b, e, p.Left(), numbers(s.written), s.read)
			}
		}
	}
}

// TestReadErrors: of each block each error, also if all blocks behind it have others.
func TestReadErrors(t *testing.T) {
	for _, size := range sizes {
		s := newShelf()
		m := s.laid(text(size, 3))
		l := m.inOrder()
		for place, p := range l {
			e := errnos[place%len(errnos)]
			s.badRead[p.vbn] = e
			faulty(t, fmt.Sprint(size, " bytes, block ", place), s, m, place, e)
			clear(s.badRead)
		}
		for place := len(l) - 1; place >= 0; place-- {
			e := errnos[place%len(errnos)]
			s.badRead[l[place].vbn] = e
			loads(t, fmt.Sprint(size, " bytes, from block ", place), s, m.blob(), "", e, numbers(l[:place+1]))
			if f := m.forks(l[:place+1]); !m.isChunk(l[place]) {
				reaches(t, fmt.Sprint(size, " bytes, from block ", place), s, m.blob(), nil, e, f)
			}
		}
	}
	for _, e := range errnos {
		s := newShelf()
		m := s.laid(text(14401, 3))
		s.badRead[m.root[0].vbn] = e
		faulty(t, fmt.Sprint(e), s, m, 0, e)
	}
}

// otherLengths are payloads of which none has as many bytes as this one.
func otherLengths(p string) []string {
	l := []string{p + "\x00", p + p[:min(4, len(p))], p[:len(p)-1], p[1:], p + p, p + strings.Repeat("\x00", 256)}
	for _, n := range []int{0, 4, 8, 236, 239, 240, 241, 244} {
		if n != len(p) {
			l = append(l, (p + text(256, 9))[:n])
		}
	}
	return l
}

// TestPayloadsOfWrongLengths: of each block.
func TestPayloadsOfWrongLengths(t *testing.T) {
	for _, size := range sizes {
		s := newShelf()
		m := s.laid(text(size, 4))
		for place, p := range m.inOrder() {
			others := otherLengths(p.payload)
			if place > 3 && place < len(m.inOrder())-10 {
				others = others[:3]
			}
			for _, other := range others {
				s.blocks[p.vbn] = other
				faulty(t, fmt.Sprint(size, " bytes, block ", place, " of ", len(other)), s, m, place, api.ErrTreeForm)
			}
			s.blocks[p.vbn] = p.payload
		}
	}
}

// TestTheFirstFault: of two faults the one that is met first is told.
func TestTheFirstFault(t *testing.T) {
	for _, size := range []int{241, 720, 14400, 14401, most} {
		s := newShelf()
		m := s.laid(text(size, 5))
		l := m.inOrder()
		for first := range l {
			second := first + 1 + (first*7)%max(1, len(l)-first-1)
			if second >= len(l) {
				continue
			}
			name := fmt.Sprint(size, " bytes, blocks ", first, " and ", second)
			s.badRead[l[first].vbn], s.blocks[l[second].vbn] = api.ErrIO, "short"
			loads(t, name, s, m.blob(), "", api.ErrIO, numbers(l[:first+1]))
			clear(s.badRead)
			s.badRead[l[second].vbn], s.blocks[l[first].vbn] = api.ErrIO, "short"
			loads(t, name, s, m.blob(), "", api.ErrTreeForm, numbers(l[:first+1]))
			clear(s.badRead)
			s.blocks[l[first].vbn], s.blocks[l[second].vbn] = l[first].payload, l[second].payload
		}
	}
}

// TestOtherSizes: a tree's blocks, read as those of another size, by the words of the document.
func TestOtherSizes(t *testing.T) {
	for _, size := range sizes[1:] {
		s := newShelf()
		root := s.laid(text(size, 6)).blob().Root
		for _, other := range slices.Concat(sizes, []int{size - 1, size + 1, size - 4, size + 4, size - chunk, size + chunk}) {
			b := api.Blob{Root: root, Size: other}
			want, wantE := walked(s.blocks, b)
			if data, e := tree.Load(s, b); data != want || e != wantE {
				t.Errorf("%d bytes as %d: %d bytes, %d, not %d, %d", size, other, len(data), e, len(want), wantE)
			}
			if size == other && wantE != api.OK {
				t.Errorf("%d bytes: the model answers %d", size, wantE)
			}
		}
	}
}

// TestPayloadsThatFitOtherSizes: a block tells nothing of its kind: what has the right length is taken as what must stand there.
func TestPayloadsThatFitOtherSizes(t *testing.T) {
	s := newShelf()
	m := s.laid(text(60*chunk, 7))
	root := m.pointers[0]
	loads(t, "pointers as a chunk", s, api.Blob{Root: root.vbn, Size: chunk}, root.payload, api.OK, []int{root.vbn})
	// Pointers that lead round and round, and nowhere.
	s.blocks[5] = strings.Repeat("\x05\x00\x00\x00", perFork)
	loads(t, "a block that points to itself", s, api.Blob{Root: 5, Size: 60 * chunk}, strings.Repeat(s.blocks[5], 60), api.OK, slices.Repeat([]int{5}, 61))
	reaches(t, "a block that points to itself", s, api.Blob{Root: 5, Size: 60 * chunk}, slices.Repeat([]int{5}, 61), api.OK, []int{5})
	s.blocks[6] = "\x06\x00\x00\x00\x06\x00\x00\x00"
	loads(t, "a root that points to itself", s, api.Blob{Root: 6, Size: 60*chunk + 1}, "", api.ErrTreeForm, []int{6, 6})
	s.blocks[7] = "\x00\x00\x00\x00\xff\xff\xff\xff"
	loads(t, "pointers to no block", s, api.Blob{Root: 7, Size: chunk + 1}, "", api.ErrBlockAt, []int{7, 0})
	reaches(t, "pointers to no block", s, api.Blob{Root: 7, Size: chunk + 1}, []int{7, 0, math.MaxUint32}, api.OK, []int{7})
}

// P11.3

// TestStoreOfNothingAhead: chunks, then pointer blocks, then the root, each in the next block of the pool.
func TestStoreOfNothingAhead(t *testing.T) {
	for _, size := range sizes {
		for _, free := range [][]int{upTo(1, 99), upTo(4000, 4095), append(upTo(4093, 4095), upTo(7, 90)...), {9, 11, 12, 300}} {
			data := text(size, size)
			if n, _ := tree.Shape(size); n <= len(free) {
				stores(t, fmt.Sprint(size, " bytes"), newShelf(), &model{}, data, free)
			}
		}
	}
	s := newShelf()
	stores(t, "three chunks", s, &model{}, text(600, 1), upTo(5, 10))
	for i, want := range []part{{5, text(600, 1)[:240]}, {6, text(600, 1)[240:480]}, {7, text(600, 1)[480:]}, {8, "\x05\x00\x00\x00\x06\x00\x00\x00\x07\x00\x00\x00"}} {
		if s.blocks[want.vbn] != want.payload {
			t.Errorf("%d: %q, not %q", i, s.blocks[want.vbn], want.payload)
		}
	}
}

// TestStoreOverOthers: each size over each other one: with the same bytes ahead, with others, with a byte that is another one.
func TestStoreOverOthers(t *testing.T) {
	long, strange := text(most, 1), text(most, 2)
	over := func(name string, was int, data string) {
		s := newShelf()
		stores(t, name, s, s.laid(long[:was]), data, upTo(1, 99))
	}
	for _, was := range sizes {
		for _, now := range sizes {
			name := fmt.Sprint(now, " over ", was)
			over(name, was, long[:now])
			over(name+", others", was, strange[:now])
			for _, at := range []int{0, chunk, now / 2, now - 1} {
				if at >= 0 && at < now {
					over(fmt.Sprint(name, ", changed at ", at), was, changed(long[:now], at))
				}
			}
		}
	}
}

// TestStoreOfTheSame: nothing is taken, though there is no room.
func TestStoreOfTheSame(t *testing.T) {
	for _, size := range sizes {
		s := newShelf()
		m := s.laid(text(size, 8))
		if now := stores(t, fmt.Sprint(size), s, m, text(size, 8), nil); now.blob() != m.blob() {
			t.Errorf("%d: %d, not %d", size, now.blob(), m.blob())
		}
	}
}

// TestStoreOfOneChange: a byte in each chunk: the chunk is written, and what leads to it.
func TestStoreOfOneChange(t *testing.T) {
	for _, size := range []int{240, 241, 5000, 14400, 14401, most} {
		s := newShelf()
		m := s.laid(text(size, 8))
		ahead := min(1, len(m.pointers)) + len(m.root)
		for at := 0; at < size; at += chunk {
			for _, i := range []int{at, min(at+chunk, size) - 1} {
				now := stores(t, fmt.Sprint(size, " bytes, changed at ", i), s, m, changed(text(size, 8), i), upTo(1, 3))
				if n := len(s.blocks) - len(m.inOrder()); n > 3 {
					t.Fatalf("%d bytes, changed at %d: %d blocks more", size, i, n)
				}
				for n := 1; n <= 1+ahead; n++ {
					if !slices.Contains(numbers(now.inOrder()), n) {
						t.Errorf("%d bytes, changed at %d: %d is not in the tree", size, i, n)
					}
				}
			}
		}
	}
}

// TestStoreOfChunksInOtherPlaces: a chunk that stands in another place is another one.
func TestStoreOfChunksInOtherPlaces(t *testing.T) {
	for _, size := range sizes[1:] {
		data := text(size, 9)
		for name, now := range map[string]string{
			"a byte ahead":      ("x" + data)[:min(size+1, most)],
			"a byte less":       data[1:],
			"a chunk ahead":     (text(chunk, 10) + data)[:min(size+chunk, most)],
			"a chunk less":      data[min(chunk, size):],
			"two chunks turned": data[min(chunk, size):min(2*chunk, size)] + data[:min(chunk, size)] + data[min(2*chunk, size):],
		} {
			s := newShelf()
			stores(t, fmt.Sprint(size, " bytes, ", name), s, s.laid(data), now, upTo(1, 99))
		}
	}
}

// TestStoreOverAnotherHeight: a pointer block with the very same payload is another one, if the trees have not as many rows.
func TestStoreOverAnotherHeight(t *testing.T) {
	data := text(most, 1)
	for _, x := range []struct {
		was, now, many int
	}{
		{60 * chunk, 60*chunk + 1, 4}, // a chunk, two pointer blocks, the root
		{60*chunk + 1, 60 * chunk, 1}, // the root
		{60 * chunk, most, 12},
		{most, 60 * chunk, 1},
		{most, 61 * chunk, 2},       // the first pointer block has the same payload
		{61 * chunk, 62 * chunk, 3}, // here, too
		{240, 241, 2},
		{241, 240, 0},
		{480, 240, 0},
		{480, 241, 2},
	} {
		name := fmt.Sprint(x.now, " over ", x.was)
		s := newShelf()
		old := s.laid(data[:x.was])
		stores(t, name, s, old, data[:x.now], upTo(1, 99))
		if n := len(s.blocks) - len(old.inOrder()); n != x.many {
			t.Errorf("%s: %d blocks are written, not %d", name, n, x.many)
		}
	}
}

// TestStoreOfPointersThatAreChunks: a chunk with the bytes of a pointer block is another one.
func TestStoreOfPointersThatAreChunks(t *testing.T) {
	s := newShelf()
	old := s.laid(text(60*chunk, 1))
	stores(t, "pointers as a chunk", s, old, old.pointers[0].payload, upTo(1, 9))
	s = newShelf()
	old = s.laid(text(61*chunk, 1))
	stores(t, "pointers as chunks", s, old, old.pointers[0].payload+old.pointers[1].payload, upTo(1, 9))
	// A chunk that is what the pointer block would be: here it is written twice.
	stores(t, "a chunk as pointers", newShelf(), &model{}, pointing([]part{{vbn: 1}, {vbn: 2}})+text(chunk, 2), upTo(1, 9))
}

// TestStoreOfTooMuch: it is told ahead of all else, and nothing is read.
func TestStoreOfTooMuch(t *testing.T) {
	for _, n := range []int{most + 1, most + 2, 60 * 60 * chunk, 60*60*chunk + 1, 1 << 20} {
		for _, old := range []api.Blob{{}, {Root: 5, Size: 3}, {Root: 6, Size: 3}, {Root: 5}, {Size: 3}, {Root: 5, Size: -1}} {
			for _, free := range [][]int{nil, upTo(1, 3), upTo(1, 4095)} {
				s := newShelf()
				s.blocks[5] = "abc"
				p := pool(t, free...)
				b, e := tree.Store(s, old, text(n, 1), p)
				if b != (api.Blob{}) || e != api.ErrTreeLong || s.read != nil || s.written != nil || p.Left() != len(free) {
					t.Errorf("%d over %d: %d, %d, read %d, written %d", n, old, b, e, s.read, numbers(s.written))
				}
			}
		}
	}
}

// refused fails if Store is not answered this error, behind so many writes and takes.
func refused(t *testing.T, name string, s *shelf, old *model, data string, free []int, want api.Errno, writes, takes int) {
	t.Helper()
	_, written := stored(old, data, free)
	ahead := contents(s, old)
	p := pool(t, free...)
	s.forget()
	b, e := tree.Store(s, old.blob(), data, p)
	if b != (api.Blob{}) || e != want {
		t.Fatalf("%s: Store: %d, %d, not %d", name, b, e, want)
	}
	if !slices.Equal(s.written, written[:writes]) {
		t.Fatalf("%s: written %d, not %d", name, numbers(s.written), numbers(written[:writes]))
	}
	if p.Left() != len(free)-takes {
		t.Fatalf("%s: %d are left of %d, not %d", name, p.Left(), len(free), len(free)-takes)
	}
	if !slices.Equal(contents(s, old), ahead) {
		t.Fatalf("%s: the old blocks are not what they were", name)
	}
}

// TestStoreWithoutRoom: of each number of blocks that are too few all are taken, and written.
func TestStoreWithoutRoom(t *testing.T) {
	for _, was := range []int{0, 300, 14400, 14401, most} {
		for _, now := range sizes {
			for _, data := range []string{text(now, 1), text(now, 2), changed(text(now, 1)+"x", now/2)[:now]} {
				fresh := newShelf()
				_, all := stored(fresh.laid(text(was, 1)), data, nil)
				for many := range len(all) {
					s := newShelf()
					refused(t, fmt.Sprint(now, " over ", was, " with ", many), s, s.laid(text(was, 1)), data, upTo(20, 19+many), api.ErrTreeRoom, many, many)
				}
				s := newShelf()
				stores(t, fmt.Sprint(now, " over ", was, " with just enough"), s, s.laid(text(was, 1)), data, upTo(20, 19+len(all)))
			}
		}
	}
}

// TestWriteErrors: the block that can't be written is taken; what was written ahead stays so.
func TestWriteErrors(t *testing.T) {
	for _, was := range []int{0, 300, 14400, 14401, most} {
		for _, now := range sizes {
			fresh := newShelf()
			_, all := stored(fresh.laid(text(was, 1)), text(now, 2), nil)
			for i := range all {
				s := newShelf()
				old := s.laid(text(was, 1))
				want := errnos[i%len(errnos)]
				s.badWrite[20+i] = want
				if i+2 < len(all) {
					s.badWrite[22+i] = api.ErrArg
				}
				name := fmt.Sprint(now, " over ", was, ", write ", i)
				refused(t, name, s, old, text(now, 2), upTo(20, 99), want, i, i+1)
				s.blocks = map[int]string{}
				old = s.laid(text(was, 1))
				refused(t, name+", no more blocks", s, old, text(now, 2), upTo(20, 20+i), want, i, i+1)
			}
		}
	}
}

// TestStoreFromAPool: blocks that a pool has handed out ahead are not taken, nor those that it never had.
func TestStoreFromAPool(t *testing.T) {
	s := newShelf()
	p := pool(t, 4090, 4093, 4095, 3, 4, 6, 9, 11, 100)
	for range 2 {
		_, e := p.Take()
		fine(t, e)
	}
	a, e := tree.Store(s, api.Blob{}, text(500, 1), p)
	if a != (api.Blob{Root: 6, Size: 500}) || e != api.OK || p.Left() != 3 || p.Next() != 7 {
		t.Fatalf("%d, %d, %d left, next %d", a, e, p.Left(), p.Next())
	}
	b, e := tree.Store(s, a, changed(text(500, 1), 0), p)
	if b != (api.Blob{Root: 11, Size: 500}) || e != api.OK || p.Left() != 1 || p.Next() != 12 {
		t.Fatalf("%d, %d, %d left, next %d", b, e, p.Left(), p.Next())
	}
	reaches(t, "the first one", s, a, []int{6, 4095, 3, 4}, api.OK, []int{6})
	reaches(t, "the second one", s, b, []int{11, 9, 3, 4}, api.OK, []int{11})
	loads(t, "the first one", s, a, text(500, 1), api.OK, []int{6, 4095, 3, 4})
	loads(t, "the second one", s, b, changed(text(500, 1), 0), api.OK, []int{11, 9, 3, 4})
}

// P11.4

// volume is one of so many blocks, and its disk.
func volume(t testing.TB, many int) (*blocks.Vol, *disk.Disk) {
	t.Helper()
	d, e := disk.New(4 * many)
	fine(t, e)
	v, e := blocks.Format(d, "")
	fine(t, e)
	return v, d
}

// kept is a tree that stands in a volume.
type kept struct {
	blob    api.Blob
	data    string
	numbers []int
}

// holds fails if a volume has not the tree as it was.
func holds(t *testing.T, v *blocks.Vol, k kept) {
	t.Helper()
	if data, e := tree.Load(v, k.blob); data != k.data || e != api.OK {
		t.Fatalf("Load of %d: %d bytes, %d", k.blob, len(data), e)
	}
	if l, e := tree.Reach(v, k.blob); !slices.Equal(l, k.numbers) || e != api.OK {
		t.Fatalf("Reach of %d: %d, %d, not %d", k.blob, l, e, k.numbers)
	}
}

// edited are bytes that have much in common with others.
func edited(chance *rand.Rand, s string) string {
	b := []byte(s)
	switch chance.Intn(6) {
	case 0:
		b = b[:chance.Intn(len(b)+1)]
	case 1:
		b = append(b, text(chance.Intn(3000), chance.Intn(99))...)
	case 2:
		at := chance.Intn(len(b) + 1)
		b = slices.Insert(b, at, []byte(text(chance.Intn(3*chunk), chance.Intn(99)))...)
	case 3:
		b = []byte(text(sizes[chance.Intn(len(sizes))], chance.Intn(3)))
	default:
		for range 1 + chance.Intn(3) {
			if len(b) > 0 {
				b[chance.Intn(len(b))]++
			}
		}
	}
	return string(b[:min(len(b), most)])
}

// usedBy is the set of the blocks of some trees.
func usedBy(trees []kept) string {
	used := make([]byte, 512)
	for _, k := range trees {
		for _, vbn := range k.numbers {
			used[vbn/8] |= 1 << (vbn % 8)
		}
	}
	return string(used)
}

// follows fails if a new tree is not what follows of an old one and of what was taken.
func follows(t *testing.T, k, old kept, p *alloc.Pool) {
	t.Helper()
	if n, e := tree.Shape(len(k.data)); len(k.numbers) != n || e != api.OK {
		t.Fatalf("Reach tells %d blocks, Shape %d, %d", len(k.numbers), n, e)
	}
	taken := p.Taken()
	count, common := 0, 0
	for vbn := range 8 * len(taken) {
		if taken[vbn/8]>>(vbn%8)&1 == 1 {
			count++
			if !slices.Contains(k.numbers, vbn) {
				t.Fatalf("%d was taken, and is not reached", vbn)
			}
		}
	}
	for i, vbn := range k.numbers {
		if slices.Contains(k.numbers[:i], vbn) {
			t.Fatalf("%d is reached twice", vbn)
		}
		if slices.Contains(old.numbers, vbn) {
			common++
		}
	}
	if len(k.numbers) != count+common {
		t.Fatalf("%d are reached, %d were taken, %d are in common", len(k.numbers), count, common)
	}
}

// TestRowsOfStores: in a volume, over trees that came out of others; none of them is another one by it, also if there is no room.
func TestRowsOfStores(t *testing.T) {
	chance := rand.New(rand.NewSource(114))
	full := 0
	for round := range 40 {
		many := []int{40, 100, 200, 300}[round%4]
		v, _ := volume(t, many)
		trees := []kept{{}}
		for range 60 {
			old := trees[chance.Intn(len(trees))]
			data := edited(chance, old.data)
			p, e := alloc.New(usedBy(trees), many, 1+chance.Intn(many))
			fine(t, e)
			blob, e := tree.Store(v, old.blob, data, p)
			if e == api.ErrTreeRoom && p.Left() == 0 {
				full++
				// All but a few give their blocks back.
				trees = trees[len(trees)-min(len(trees), 2):]
				trees = append(trees, kept{})
			} else {
				fine(t, e)
				l, e := tree.Reach(v, blob)
				fine(t, e)
				k := kept{blob, data, l}
				follows(t, k, old, p)
				trees = append(trees, k)
			}
			for _, k := range trees {
				holds(t, v, k)
			}
		}
	}
	if full < 20 {
		t.Errorf("there was no room %d times", full)
	}
}

// TestErrorsOfAVolume: what is read and written tells its own errors.
func TestErrorsOfAVolume(t *testing.T) {
	made := func() (*blocks.Vol, *disk.Disk, api.Blob) {
		v, d := volume(t, 200)
		b, e := tree.Store(v, api.Blob{}, text(14401, 1), pool(t, upTo(50, 199)...))
		fine(t, e, v.Commit(""))
		// Another one keeps no payloads.
		v, e = blocks.Open(d)
		fine(t, e)
		return v, d, b
	}
	for name, x := range map[string]struct {
		do   func(v *blocks.Vol, d *disk.Disk, b api.Blob) api.Blob
		want api.Errno
	}{
		"good":                {func(v *blocks.Vol, d *disk.Disk, b api.Blob) api.Blob { return b }, api.OK},
		"a bad root":          {func(v *blocks.Vol, d *disk.Disk, b api.Blob) api.Blob { fine(t, d.Bad(4*b.Root, true)); return b }, api.ErrIO},
		"a bad chunk":         {func(v *blocks.Vol, d *disk.Disk, b api.Blob) api.Blob { fine(t, d.Bad(4*70+3, true)); return b }, api.ErrIO},
		"no power":            {func(v *blocks.Vol, d *disk.Disk, b api.Blob) api.Blob { fine(t, d.Crash("")); return b }, api.ErrDead},
		"no block's bytes":    {func(v *blocks.Vol, d *disk.Disk, b api.Blob) api.Blob { return api.Blob{Root: 9, Size: 5} }, api.ErrBlockSum},
		"no block":            {func(v *blocks.Vol, d *disk.Disk, b api.Blob) api.Blob { return api.Blob{Root: 200, Size: 5} }, api.ErrBlockAt},
		"below 0":             {func(v *blocks.Vol, d *disk.Disk, b api.Blob) api.Blob { return api.Blob{Root: -1, Size: 5} }, api.ErrBlockAt},
		"an empty chunk":      {func(v *blocks.Vol, d *disk.Disk, b api.Blob) api.Blob { fine(t, v.Write(70, "")); return b }, api.ErrTreeForm},
		"another root's size": {func(v *blocks.Vol, d *disk.Disk, b api.Blob) api.Blob { fine(t, v.Write(b.Root, "abcd")); return b }, api.ErrTreeForm},
	} {
		v, d, b := made()
		b = x.do(v, d, b)
		s, e := tree.Load(v, b)
		if e != x.want || (e != api.OK) != (s == "") {
			t.Errorf("%s: Load: %d bytes, %d", name, len(s), e)
		}
		p := pool(t, upTo(1, 40)...)
		if c, e := tree.Store(v, b, "abc", p); e != x.want || (e != api.OK) != (c == api.Blob{}) || (e != api.OK) != (p.Left() == 40) {
			t.Errorf("%s: Store: %d, %d, %d left", name, c, e, p.Left())
		}
	}
	v, d, b := made()
	fine(t, d.Bad(4*3, true))
	p := pool(t, upTo(1, 40)...)
	if c, e := tree.Store(v, b, text(1000, 2), p); c != (api.Blob{}) || e != api.ErrIO || p.Left() != 37 {
		t.Errorf("a bad block: %d, %d, %d left", c, e, p.Left())
	}
	if s, e := v.Read(2); s != text(1000, 2)[240:480] || e != api.OK {
		t.Errorf("the one ahead: %q, %d", s, e)
	}
	fine(t, d.Arm(2, ""))
	if c, e := tree.Store(v, b, text(1000, 2), p); c != (api.Blob{}) || e != api.ErrDead || !v.Dead() || p.Left() != 36 {
		t.Errorf("the power goes: %d, %d, %d left", c, e, p.Left())
	}
	v, _, b = made()
	// The pool has blocks that the volume has not.
	if c, e := tree.Store(v, b, text(1000, 2), pool(t, 198, 300)); c != (api.Blob{}) || e != api.ErrBlockAt {
		t.Errorf("blocks of another volume: %d, %d", c, e)
	}
}

// TestTreesStay: behind a commit a volume that is opened anew has the trees.
func TestTreesStay(t *testing.T) {
	v, d := volume(t, 200)
	p := pool(t, upTo(1, 199)...)
	var trees []kept
	for _, size := range []int{0, 1, 240, 241, 5000, most} {
		b, e := tree.Store(v, api.Blob{}, text(size, size), p)
		fine(t, e)
		l, e := tree.Reach(v, b)
		fine(t, e)
		trees = append(trees, kept{b, text(size, size), l})
	}
	fine(t, v.Commit(""), d.Crash(""))
	d.Revive()
	v, e := blocks.Open(d)
	fine(t, e)
	for _, k := range trees {
		holds(t, v, k)
	}
}

// walked is what Load answers, by the words of the document, and the blocks in order, each with whether it is a chunk.
func walked(blocks map[int]string, b api.Blob) (data string, e api.Errno) {
	if b.Size < 0 || b.Size > most || (b.Root == 0 && b.Size != 0) || (b.Root != 0 && b.Size == 0) {
		return "", api.ErrTreeForm
	}
	left := b.Size
	read := func(vbn, size int) string {
		payload, ok := blocks[vbn]
		if e == api.OK && !ok {
			e = api.ErrBlockAt
		}
		if e == api.OK && len(payload) != size {
			e = api.ErrTreeForm
		}
		if e != api.OK {
			return strings.Repeat("\x00", size)
		}
		return payload
	}
	number := func(s string, i int) int { return int(binary.LittleEndian.Uint32([]byte(s[4*i:]))) }
	chunks := (b.Size + 239) / 240
	row := func(pointers string) {
		for i := range len(pointers) / 4 {
			n := min(left, chunk)
			data += read(number(pointers, i), n)
			left -= n
		}
	}
	switch {
	case chunks > perFork:
		root := read(b.Root, 8)
		row(read(number(root, 0), 240))
		row(read(number(root, 1), 4*(chunks-perFork)))
	case chunks > 1:
		row(read(b.Root, 4*chunks))
	case chunks == 1:
		data = read(b.Root, b.Size)
	}
	if e != api.OK {
		return "", e
	}
	return data, api.OK
}

func FuzzLoad(f *testing.F) {
	fork := strings.Repeat("\x01\x00\x00\x00\x02\x00\x00\x00", 30)
	f.Add(1, 3, "abc", "", "", "")
	f.Add(2, 241, text(240, 1), "\x01\x00\x00\x00\x03\x00\x00\x00", "x", "")
	f.Add(4, 14400, text(240, 1), text(240, 2), "", fork)
	f.Add(4, 14401, text(240, 1), fork, "\x01\x00\x00\x00", "\x02\x00\x00\x00\x03\x00\x00\x00")
	f.Add(3, 14640, fork, fork, "\x02\x00\x00\x00\x04\x00\x00\x00", "\x01\x00\x00\x00")
	f.Add(0, 0, "", "", "", "")
	f.Add(-1, 16385, "", "", "", "")
	f.Fuzz(func(t *testing.T, root, size int, a, b, c, d string) {
		s := newShelf()
		s.blocks = map[int]string{1: a, 2: b, 3: c, 4: d}
		blob := api.Blob{Root: root, Size: size}
		want, wantE := walked(s.blocks, blob)
		data, e := tree.Load(s, blob)
		if data != want || e != wantE {
			t.Fatalf("Load of %d: %d bytes, %d, not %d, %d", blob, len(data), e, len(want), wantE)
		}
		l, f := tree.Reach(s, blob)
		if n, _ := tree.Shape(size); e == api.OK && (len(l) != n || f != api.OK) || f != api.OK && l != nil {
			t.Fatalf("Reach of %d: %d, %d", blob, l, f)
		}
	})
}

func FuzzStore(f *testing.F) {
	f.Add(text(300, 1), 300, 0, 5, "x")
	f.Add(text(240, 1), 16384, 14400, 240, text(240, 2))
	f.Add("ab", 14400, 0, 14400, "y")
	f.Add("", 5, 3, 7, "")
	f.Add(text(700, 3), 14401, 14400, 14399, "")
	f.Fuzz(func(t *testing.T, seed string, was, at, now int, more string) {
		if seed == "" || was < 0 || was > most || at < 0 || at > was || now < 0 || now > most {
			return
		}
		data := strings.Repeat(seed, most/len(seed)+1)[:was]
		other := data[:at] + more + data[at:]
		s := newShelf()
		old := s.laid(data)
		stores(t, "one", s, old, other[:min(now, len(other), most)], upTo(1, 99))
	})
}

// TestExamples: those of the document.
func TestExamples(t *testing.T) {
	for size, want := range map[int]int{0: 0, 240: 1, 241: 3, 14400: 61, 14401: 64} {
		if n, e := tree.Shape(size); n != want || e != api.OK {
			t.Errorf("%d: %d, %d", size, n, e)
		}
	}
	s := newShelf()
	old := s.laid(text(480, 1))
	b, e := tree.Store(s, old.blob(), text(240, 1)+text(60, 2), pool(t, 5, 6, 7))
	if b != (api.Blob{Root: 6, Size: 300}) || e != api.OK || !slices.Equal(s.written, []part{{5, text(60, 2)}, {6, "\xe8\x03\x00\x00\x05\x00\x00\x00"}}) {
		t.Errorf("%d, %d, written %v", b, e, s.written)
	}
}

// The rules that hold everywhere

// TestAnswersAgain: the same is answered again, whatever becomes of what was answered.
func TestAnswersAgain(t *testing.T) {
	for _, size := range sizes {
		s := newShelf()
		m := s.laid(text(size, 1))
		first, _ := tree.Reach(s, m.blob())
		second, _ := tree.Reach(s, m.blob())
		room := first[:cap(first)]
		for i := range room {
			room[i] = -7
		}
		if !slices.Equal(second, numbers(m.inOrder())) {
			t.Errorf("%d: %d", size, second)
		}
		for range 2 {
			loads(t, fmt.Sprint(size), s, m.blob(), text(size, 1), api.OK, numbers(m.inOrder()))
			reaches(t, fmt.Sprint(size), s, m.blob(), numbers(m.inOrder()), api.OK, m.forks(m.inOrder()))
		}
	}
}

// TestOfNothing: neither source nor pool are asked.
func TestOfNothing(t *testing.T) {
	if s, e := tree.Load(nil, api.Blob{}); s != "" || e != api.OK {
		t.Errorf("Load: %q, %d", s, e)
	}
	if l, e := tree.Reach(nil, api.Blob{}); l != nil || e != api.OK {
		t.Errorf("Reach: %d, %d", l, e)
	}
	if b, e := tree.Store(nil, api.Blob{}, "", nil); b != (api.Blob{}) || e != api.OK {
		t.Errorf("Store: %d, %d", b, e)
	}
}
