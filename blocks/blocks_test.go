package blocks_test

import (
	"encoding/binary"
	"encoding/hex"
	"fmt"
	"math"
	"math/rand"
	"runtime"
	"slices"
	"strings"
	"testing"

	"stillage/api"
	"stillage/blocks"
	"stillage/digest"
	"stillage/disk"
)

const (
	maxNumber = 1 << 40
	room      = 32 // payloads that a volume keeps
)

// A volume is where blocks are read and written.
var _ api.Target = (*blocks.Vol)(nil)

// noughts are so many bytes 0.
func noughts(n int) string { return strings.Repeat("\x00", n) }

// text is one of so many bytes, which tell of their places.
func text(n, seed int) string {
	b := make([]byte, n)
	for i := range b {
		b[i] = byte(seed*31 + i*7 + i/256)
	}
	return string(b)
}

// fine fails if one of some calls was not answered OK.
func fine(t testing.TB, answers ...api.Errno) {
	t.Helper()
	for i, e := range answers {
		if e != api.OK {
			t.Fatalf("call %d: %d", i, e)
		}
	}
}

// scratched is a disk on which something stands everywhere.
func scratched(t testing.TB, sectors int) *disk.Disk {
	t.Helper()
	var b strings.Builder
	for n := range sectors {
		b.WriteString(text(64, n+1))
	}
	d, e := disk.Open(b.String())
	fine(t, e)
	return d
}

// formatted is a volume with a root, and its disk.
func formatted(t testing.TB, sectors int, root string) (*blocks.Vol, *disk.Disk) {
	t.Helper()
	d := scratched(t, sectors)
	v, e := blocks.Format(d, root)
	if v == nil || e != api.OK {
		t.Fatalf("Format(%q): %d", root, e)
	}
	return v, d
}

// opened is the volume of a disk.
func opened(t testing.TB, d *disk.Disk) *blocks.Vol {
	t.Helper()
	v, e := blocks.Open(d)
	if v == nil || e != api.OK {
		t.Fatalf("Open: %d", e)
	}
	return v
}

// laid is a disk on which something stands everywhere, and these texts from these sectors on.
func laid(t testing.TB, sectors int, texts map[int]string) *disk.Disk {
	t.Helper()
	b := []byte(scratched(t, sectors).Image())
	for n, s := range texts {
		copy(b[64*n:], s)
	}
	d, e := disk.Open(string(b))
	fine(t, e)
	return d
}

// filled are bytes with noughts behind them, so many in all.
func filled(s string, size int) string { return s + noughts(size-len(s)) }

// sealed are these, and their sum.
func sealed(s string, size int) string {
	s = filled(s, size)
	sum, _ := digest.Sum("stillage volume!", s)
	return s + sum
}

// blockOf are a block's bytes, by the words of the document, that say that it carries count bytes.
func blockOf(count int, payload string) string {
	return sealed(string(binary.LittleEndian.AppendUint16(nil, uint16(count)))+payload, 248)
}

// carrying are the bytes of a block that carries this.
func carrying(payload string) string { return blockOf(len(payload), payload) }

// sectorOf are a root's sector's bytes, by the words of the document, that say that it has so many bytes.
func sectorOf(number, length int, root string) string {
	s := "RT" + string(binary.LittleEndian.AppendUint64(nil, uint64(number))[:6])
	return sealed(s+string([]byte{byte(length)})+root, 56)
}

// rooted are those of this root.
func rooted(number int, root string) string { return sectorOf(number, len(root), root) }

// model is a volume by the words of the document, over a disk of its own.
type model struct {
	d      *disk.Disk
	root   string
	number int
	kept   []payload // the one that was used last first
	dead   bool
}

// payload is what a volume keeps of a block.
type payload struct {
	vbn   int
	bytes string
}

// modelUnframe is what Unframe does.
func modelUnframe(s string) (string, api.Errno) {
	if len(s) == 256 {
		if n := int(s[0]) + 256*int(s[1]); n <= 240 && s == carrying(s[2:2+n]) {
			return s[2 : 2+n], api.OK
		}
	}
	return "", api.ErrBlockSum
}

// modelFormat is what Format does.
func modelFormat(d *disk.Disk, root string) (*model, api.Errno) {
	switch {
	case d.Sectors()/4 < 8:
		return nil, api.ErrBlockForm
	case len(root) > 40:
		return nil, api.ErrBlockLong
	}
	if e := d.Write(0, noughts(64)); e != api.OK {
		return nil, e
	}
	if e := d.Write(1, rooted(1, root)); e != api.OK {
		return nil, e
	}
	return &model{d: d, root: root, number: 1}, d.Sync()
}

// modelRoot is the root of a sector's bytes; the number 0, if they are no root's.
func modelRoot(s string) (string, int) {
	number := int(binary.LittleEndian.Uint64([]byte(s[2:8] + "\x00\x00")))
	length := int(s[8])
	if number > maxNumber || length > 40 || s != rooted(number, s[9:9+length]) {
		return "", 0
	}
	return s[9 : 9+length], number
}

// modelOpen is what Open does.
func modelOpen(d *disk.Disk) (*model, api.Errno) {
	if d.Sectors()/4 < 8 {
		return nil, api.ErrBlockForm
	}
	m := &model{d: d}
	none := api.ErrBlockForm
	for n := range 2 {
		s, e := d.Read(n)
		switch e {
		case api.ErrDead:
			return nil, e
		case api.ErrIO:
			none, s = e, noughts(64)
		}
		if root, number := modelRoot(s); number%2 == n && number > m.number {
			m.root, m.number = root, number
		}
	}
	if m.number == 0 {
		return nil, none
	}
	return m, api.OK
}

func (m *model) has(vbn int) bool { return vbn >= 1 && vbn < m.d.Sectors()/4 }

// told keeps what an error makes of the volume.
func (m *model) told(e api.Errno) api.Errno {
	m.dead = m.dead || e == api.ErrDead
	return e
}

// drop keeps no payload of a block.
func (m *model) drop(vbn int) {
	m.kept = slices.DeleteFunc(m.kept, func(x payload) bool { return x.vbn == vbn })
}

// use keeps the payload of a block.
func (m *model) use(vbn int, bytes string) {
	m.drop(vbn)
	m.kept = slices.Insert(m.kept, 0, payload{vbn, bytes})
	m.kept = m.kept[:min(len(m.kept), room)]
}

func (m *model) read(vbn int) (string, api.Errno) {
	switch {
	case !m.has(vbn):
		return "", api.ErrBlockAt
	case m.dead:
		return "", api.ErrDead
	}
	for _, x := range m.kept {
		if x.vbn == vbn {
			m.use(vbn, x.bytes)
			return x.bytes, api.OK
		}
	}
	block := ""
	for n := 4 * vbn; n < 4*vbn+4; n++ {
		s, e := m.d.Read(n)
		if e != api.OK {
			return "", m.told(e)
		}
		block += s
	}
	s, e := modelUnframe(block)
	if e == api.OK {
		m.use(vbn, s)
	}
	return s, e
}

func (m *model) write(vbn int, bytes string) api.Errno {
	switch {
	case !m.has(vbn):
		return api.ErrBlockAt
	case len(bytes) > 240:
		return api.ErrBlockLong
	case m.dead:
		return api.ErrDead
	}
	block := carrying(bytes)
	for n := range 4 {
		if e := m.d.Write(4*vbn+n, block[64*n:64*n+64]); e != api.OK {
			m.drop(vbn)
			return m.told(e)
		}
	}
	m.use(vbn, bytes)
	return api.OK
}

func (m *model) commit(root string) api.Errno {
	switch {
	case len(root) > 40:
		return api.ErrBlockLong
	case m.dead:
		return api.ErrDead
	case m.number == maxNumber:
		return api.ErrBlockForm
	}
	if e := m.d.Sync(); e != api.OK {
		return m.told(e)
	}
	if e := m.d.Write((m.number+1)%2, rooted(m.number+1, root)); e != api.OK {
		return m.told(e)
	}
	if e := m.d.Sync(); e != api.OK {
		return m.told(e)
	}
	m.root, m.number = root, m.number+1
	return api.OK
}

// tells is what a volume tells, and the payloads that it keeps: a clone tells these though no block can be read.
func tells(v *blocks.Vol, d *disk.Disk) string {
	root, number := v.Root()
	s := fmt.Sprintf("%d blocks, root %q, %d, dead %t, kept", v.Blocks(), root, number, v.Dead())
	c := d.Clone()
	c.Revive()
	for vbn := 1; vbn < v.Blocks(); vbn++ {
		c.Bad(4*vbn, true)
	}
	k := v.Clone(c)
	for vbn := 1; vbn < v.Blocks(); vbn++ {
		if bytes, e := k.Read(vbn); e == api.OK {
			s += fmt.Sprintf(" %d: %q", vbn, bytes)
		}
	}
	return s
}

func (m *model) tells() string {
	s := fmt.Sprintf("%d blocks, root %q, %d, dead %t, kept", m.d.Sectors()/4, m.root, m.number, m.dead)
	if m.dead {
		return s
	}
	kept := slices.Clone(m.kept)
	slices.SortFunc(kept, func(a, b payload) int { return a.vbn - b.vbn })
	for _, x := range kept {
		s += fmt.Sprintf(" %d: %q", x.vbn, x.bytes)
	}
	return s
}

// diskOther is in what a disk is another one than a second one; nothing if it is not.
func diskOther(d, want *disk.Disk) string {
	if d.Dead() != want.Dead() || d.Steps() != want.Steps() || d.Loose() != want.Loose() {
		return fmt.Sprintf("disk: dead %t, %d steps, %d loose, not %t, %d, %d", d.Dead(), d.Steps(), d.Loose(), want.Dead(), want.Steps(), want.Loose())
	}
	if d.Image() != want.Image() {
		return fmt.Sprintf("there stays %q, not %q", d.Image(), want.Image())
	}
	for n := range d.Sectors() {
		s, e := d.Read(n)
		if w, f := want.Read(n); s != w || e != f {
			return fmt.Sprintf("sector %d: %q, %d, not %q, %d", n, s, e, w, f)
		}
	}
	return ""
}

// other is in what a volume and its disk are others than the model; nothing if they are not.
func other(v *blocks.Vol, d *disk.Disk, m *model) string {
	if a, b := tells(v, d), m.tells(); a != b {
		return a + "; not " + b
	}
	return diskOther(d, m.d)
}

// P8.1

// TestFrameOfSums: by sums that another program told (SipHash of OpenSSL).
func TestFrameOfSums(t *testing.T) {
	var rising strings.Builder
	for c := range 240 {
		rising.WriteByte(byte(c))
	}
	for _, x := range []struct{ payload, front, sum string }{
		{"", "\x00\x00", "a891b5803416c93e"},
		{"abc", "\x03\x00abc", "f7e7955f0a6ce605"},
		{rising.String(), "\xf0\x00" + rising.String(), "daaaca02f579ac08"},
	} {
		sum, _ := hex.DecodeString(x.sum)
		want := x.front + noughts(248-len(x.front)) + string(sum)
		if s, e := blocks.Frame(x.payload); s != want || e != api.OK {
			t.Errorf("Frame(%q): %x, %d, not %x", x.payload, s, e, want)
		}
		if s, e := blocks.Unframe(want); s != x.payload || e != api.OK {
			t.Errorf("Unframe of %q: %q, %d", x.payload, s, e)
		}
	}
}

// TestFrame: each length that may be, and payloads that end with noughts.
func TestFrame(t *testing.T) {
	for n := range 241 {
		for _, p := range []string{text(n, n), noughts(n), strings.Repeat("\xff", n), text(n/2, 3) + noughts(n-n/2)} {
			s, e := blocks.Frame(p)
			if s != carrying(p) || e != api.OK {
				t.Fatalf("Frame(%q): %q, %d", p, s, e)
			}
			if u, e := blocks.Unframe(s); u != p || e != api.OK {
				t.Fatalf("Unframe of %q: %q, %d", p, u, e)
			}
		}
	}
}

func TestFrameTooLong(t *testing.T) {
	for _, n := range []int{241, 242, 246, 247, 248, 255, 256, 257, 65535, 65536, 65536 + 5, 1 << 20} {
		if s, e := blocks.Frame(text(n, 1)); s != "" || e != api.ErrBlockLong {
			t.Errorf("%d: %d bytes, %d", n, len(s), e)
		}
	}
}

// none fails if bytes are a block's.
func none(t *testing.T, name, s string) {
	t.Helper()
	if p, e := blocks.Unframe(s); p != "" || e != api.ErrBlockSum {
		t.Errorf("%s: %q, %d", name, p, e)
	}
}

// TestUnframeOfTurnedBits: of blocks each bit.
func TestUnframeOfTurnedBits(t *testing.T) {
	for _, n := range []int{0, 1, 100, 239, 240} {
		good := carrying(text(n, 7))
		for bit := range 8 * 256 {
			b := []byte(good)
			b[bit/8] ^= 1 << (bit % 8)
			none(t, fmt.Sprint(n, " bytes, bit ", bit), string(b))
		}
	}
}

// TestUnframeOfOtherForms: also with a sum that is right.
func TestUnframeOfOtherForms(t *testing.T) {
	good := carrying("payload")
	for _, n := range []int{0, 1, 2, 7, 64, 247, 248, 255} {
		none(t, fmt.Sprint("the first ", n), good[:n])
		none(t, fmt.Sprint("without the first ", n+1), good[n+1:])
	}
	none(t, "a byte more", good+"\x00")
	none(t, "a byte ahead", "\x00"+good)
	none(t, "twice", good+good)
	none(t, "noughts", noughts(256))
	for count := range 1 << 16 {
		s := blockOf(count, text(240, 1))
		if count == 240 {
			if p, e := blocks.Unframe(s); p != text(240, 1) || e != api.OK {
				t.Errorf("240: %q, %d", p, e)
			}
		} else {
			none(t, fmt.Sprint(count, " of 240"), s)
		}
	}
	for count := 241; count <= 254; count++ {
		none(t, fmt.Sprint(count, " noughts"), blockOf(count, ""))
		none(t, fmt.Sprint(count, " bytes"), blockOf(count, text(min(count, 246), 2)))
	}
	for behind := 5; behind < 248; behind++ {
		b := []byte(filled("\x03\x00abc", 248))
		b[behind] = 1
		none(t, fmt.Sprint("a byte behind, at ", behind), sealed(string(b), 248))
	}
	// The numbers the other way round.
	none(t, "the higher one first", sealed("\x00\x03abc", 248))
	for name, sum := range map[string]func() (string, api.Errno){
		"another key":   func() (string, api.Errno) { return digest.Sum("stillage stream!", good[:248]) },
		"a shorter sum": func() (string, api.Errno) { return digest.Sum("stillage volume!", good[:247]) },
		"of nothing":    func() (string, api.Errno) { return digest.Sum("stillage volume!", "") },
	} {
		s, e := sum()
		fine(t, e)
		none(t, name, good[:248]+s)
	}
}

// FuzzFrame frames whatever may be carried, and unframes whatever bytes there are.
func FuzzFrame(f *testing.F) {
	f.Add("")
	f.Add("abc")
	f.Add(text(240, 1))
	f.Add(text(241, 1))
	f.Add(carrying("payload"))
	f.Add(blockOf(241, text(241, 1)))
	f.Fuzz(func(t *testing.T, s string) {
		p, e := blocks.Unframe(s)
		if want, f := modelUnframe(s); p != want || e != f {
			t.Fatalf("Unframe: %q, %d, not %q, %d", p, e, want, f)
		}
		b, e := blocks.Frame(s)
		if len(s) > 240 {
			if b != "" || e != api.ErrBlockLong {
				t.Fatalf("Frame: %q, %d", b, e)
			}
			return
		}
		if p, f := blocks.Unframe(b); b != carrying(s) || e != api.OK || p != s || f != api.OK {
			t.Fatalf("Frame: %q, %d; Unframe of it: %q, %d", b, e, p, f)
		}
	})
}

// P8.2

func TestFormatOfWrongDisksAndRoots(t *testing.T) {
	for sectors := 1; sectors < 32; sectors++ {
		d := scratched(t, sectors)
		ahead := d.Clone()
		for _, n := range []int{0, 1, 40, 41, 1000} {
			if v, e := blocks.Format(d, text(n, 1)); v != nil || e != api.ErrBlockForm {
				t.Errorf("%d sectors, root of %d: %t, %d", sectors, n, v != nil, e)
			}
		}
		if s := diskOther(d, ahead); s != "" {
			t.Errorf("%d sectors: %s", sectors, s)
		}
	}
	d := scratched(t, 32)
	ahead := d.Clone()
	for _, n := range []int{41, 42, 47, 48, 56, 64, 255, 256, 257, 256 + 40, 1 << 20} {
		if v, e := blocks.Format(d, text(n, 1)); v != nil || e != api.ErrBlockLong {
			t.Errorf("root of %d: %t, %d", n, v != nil, e)
		}
	}
	if s := diskOther(d, ahead); s != "" {
		t.Error(s)
	}
}

// TestFormat: sectors 0 and 1 are written and stay; nothing else is written.
func TestFormat(t *testing.T) {
	for _, sectors := range []int{32, 33, 34, 35, 36, 255, 256, 16383, 16384} {
		v, d := formatted(t, sectors, "root")
		if d.Image() != noughts(64)+rooted(1, "root")+scratched(t, sectors).Image()[128:] {
			t.Fatalf("%d sectors: there stays something else", sectors)
		}
		if d.Steps() != 3 || d.Loose() != 0 {
			t.Errorf("%d sectors: %d steps, %d loose", sectors, d.Steps(), d.Loose())
		}
		for _, k := range []*blocks.Vol{v, opened(t, d)} {
			if root, number := k.Root(); root != "root" || number != 1 || k.Blocks() != sectors/4 || k.Dead() {
				t.Errorf("%d sectors: %s", sectors, tells(k, d))
			}
		}
	}
	for n := range 41 {
		for _, root := range []string{text(n, n), noughts(n), strings.Repeat("\xff", n)} {
			v, d := formatted(t, 32, root)
			if s, e := d.Read(1); s != rooted(1, root) || e != api.OK {
				t.Errorf("%q: %q, %d", root, s, e)
			}
			want := fmt.Sprintf("8 blocks, root %q, 1, dead false, kept", root)
			if a, b := tells(v, d), tells(opened(t, d), d); a != want || b != want {
				t.Errorf("%s; opened: %s", a, b)
			}
		}
	}
}

// TestFormatAnew: what was there is there no more, also if its number was greater.
func TestFormatAnew(t *testing.T) {
	for _, more := range []int{0, 1, 2, 3} {
		v, d := formatted(t, 32, "old")
		fine(t, v.Write(1, "old"))
		for range more {
			fine(t, v.Commit("old"))
		}
		fine(t, d.Sync())
		image := d.Image()
		w, e := blocks.Format(d, "new")
		fine(t, e)
		if d.Image() != noughts(64)+rooted(1, "new")+image[128:] {
			t.Errorf("%d more: there stays %q", more, d.Image())
		}
		for _, k := range []*blocks.Vol{w, opened(t, d)} {
			if root, number := k.Root(); root != "new" || number != 1 {
				t.Errorf("%d more: %q, %d", more, root, number)
			}
		}
	}
}

// TestFormatTellsTheDisksError: and it is the forms that are told ahead of it.
func TestFormatTellsTheDisksError(t *testing.T) {
	bad := func(n int) func(d *disk.Disk) api.Errno {
		return func(d *disk.Disk) api.Errno { return d.Bad(n, true) }
	}
	arm := func(n int) func(d *disk.Disk) api.Errno {
		return func(d *disk.Disk) api.Errno { return d.Arm(n, "\x01") }
	}
	crash := func(d *disk.Disk) api.Errno { return d.Crash("") }
	for name, x := range map[string]struct {
		sectors, long int
		do            func(d *disk.Disk) api.Errno
		want          api.Errno
	}{
		"sector 0 is bad":        {32, 4, bad(0), api.ErrIO},
		"sector 1 is bad":        {32, 4, bad(1), api.ErrIO},
		"sector 2 is bad":        {32, 4, bad(2), api.OK},
		"no power":               {32, 4, crash, api.ErrDead},
		"in the first Write":     {32, 4, arm(1), api.ErrDead},
		"in the second Write":    {32, 4, arm(2), api.ErrDead},
		"in Sync":                {32, 4, arm(3), api.ErrDead},
		"behind Sync":            {32, 4, arm(4), api.OK},
		"bad and few":            {31, 4, bad(0), api.ErrBlockForm},
		"no power and few":       {31, 4, crash, api.ErrBlockForm},
		"bad and long":           {32, 41, bad(0), api.ErrBlockLong},
		"no power and long":      {32, 41, crash, api.ErrBlockLong},
		"no power, few and long": {31, 41, crash, api.ErrBlockForm},
	} {
		d := scratched(t, x.sectors)
		fine(t, x.do(d))
		mine := d.Clone()
		_, e := modelFormat(mine, text(x.long, 1))
		if e != x.want {
			t.Fatalf("%s: the model answers %d", name, e)
		}
		if v, e := blocks.Format(d, text(x.long, 1)); (v != nil) != (x.want == api.OK) || e != x.want {
			t.Errorf("%s: %t, %d", name, v != nil, e)
		}
		if s := diskOther(d, mine); s != "" {
			t.Errorf("%s: %s", name, s)
		}
	}
}

// opens opens a disk, and holds what is answered against what the model and the caller say.
func opens(t *testing.T, name string, d *disk.Disk, want api.Errno) *blocks.Vol {
	t.Helper()
	mine := d.Clone()
	v, e := blocks.Open(d)
	m, f := modelOpen(mine)
	if f != want {
		t.Fatalf("%s: the model answers %d", name, f)
	}
	if (v != nil) != (want == api.OK) || e != want {
		t.Fatalf("%s: %t, %d, not %d", name, v != nil, e, want)
	}
	if want != api.OK {
		if s := diskOther(d, mine); s != "" {
			t.Errorf("%s: %s", name, s)
		}
		return nil
	}
	if s := other(v, d, m); s != "" {
		t.Errorf("%s: %s", name, s)
	}
	return v
}

func TestOpenOfFewSectors(t *testing.T) {
	for sectors := 2; sectors < 36; sectors++ {
		want := api.OK
		if sectors < 32 {
			want = api.ErrBlockForm
		}
		d := laid(t, sectors, map[int]string{0: noughts(64), 1: rooted(1, "r")})
		opens(t, fmt.Sprint(sectors), d, want)
	}
	for _, sectors := range []int{1, 2, 31} {
		d := scratched(t, sectors)
		fine(t, d.Bad(0, true))
		opens(t, fmt.Sprint(sectors, " bad"), d, api.ErrBlockForm)
		fine(t, d.Crash(""))
		opens(t, fmt.Sprint(sectors, " dead"), d, api.ErrBlockForm)
	}
}

// TestOpenOfSums: by a sum that another program told (SipHash of OpenSSL).
func TestOpenOfSums(t *testing.T) {
	for _, x := range []struct {
		number           int
		root, front, sum string
	}{
		{1, "a", "RT\x01\x00\x00\x00\x00\x00\x01a", "f6bc423d7dd38849"},
		{2, "", "RT\x02\x00\x00\x00\x00\x00\x00", "19621a3bf74b7ad3"},
		{maxNumber, strings.Repeat("r", 40), "RT\x00\x00\x00\x00\x00\x01\x28" + strings.Repeat("r", 40), "c01f013efbc95c59"},
	} {
		sum, _ := hex.DecodeString(x.sum)
		d := laid(t, 32, map[int]string{x.number % 2: filled(x.front, 56) + string(sum)})
		v := opens(t, fmt.Sprint(x.number), d, api.OK)
		if root, number := v.Root(); root != x.root || number != x.number {
			t.Errorf("%q, %d, not %q, %d", root, number, x.root, x.number)
		}
	}
}

// TestOpenOfTurnedBits: of a root's sector each bit; the root ahead is told then.
func TestOpenOfTurnedBits(t *testing.T) {
	for _, n := range []int{0, 17, 40} {
		for bit := range 512 {
			b := []byte(rooted(6, text(n, 1)))
			b[bit/8] ^= 1 << (bit % 8)
			name := fmt.Sprint(n, " bytes, bit ", bit)
			opens(t, name+", alone", laid(t, 32, map[int]string{0: string(b)}), api.ErrBlockForm)
			d := laid(t, 32, map[int]string{0: string(b), 1: rooted(5, "ahead")})
			if root, number := opens(t, name, d, api.OK).Root(); root != "ahead" || number != 5 {
				t.Errorf("%s: %q, %d", name, root, number)
			}
		}
	}
}

// TestOpenOfOtherForms: also with a sum that is right.
func TestOpenOfOtherForms(t *testing.T) {
	for _, x := range []struct {
		name string
		n    int // the sector
		s    string
		want api.Errno
	}{
		{"good", 0, rooted(2, "root"), api.OK},
		{"good, odd", 1, rooted(3, "root"), api.OK},
		{"noughts", 0, noughts(64), api.ErrBlockForm},
		{"even in sector 1", 1, rooted(2, "root"), api.ErrBlockForm},
		{"odd in sector 0", 0, rooted(1, "root"), api.ErrBlockForm},
		{"in sector 2", 2, rooted(2, "root"), api.ErrBlockForm},
		{"the number 0", 0, rooted(0, "root"), api.ErrBlockForm},
		{"the number 0 of nothing", 0, rooted(0, ""), api.ErrBlockForm},
		{"2^32", 0, rooted(1<<32, "root"), api.OK},
		{"2^40 - 1", 1, rooted(maxNumber-1, "root"), api.OK},
		{"2^40", 0, rooted(maxNumber, "root"), api.OK},
		{"2^40 + 1", 1, rooted(maxNumber+1, "root"), api.ErrBlockForm},
		{"2^40 + 2", 0, rooted(maxNumber+2, "root"), api.ErrBlockForm},
		{"2^47", 0, rooted(1<<47, "root"), api.ErrBlockForm},
		{"2^48 - 1", 1, rooted(1<<48-1, "root"), api.ErrBlockForm},
		{"40 bytes", 0, rooted(2, text(40, 1)), api.OK},
		{"40 noughts", 0, rooted(2, noughts(40)), api.OK},
		{"no bytes", 0, rooted(2, ""), api.OK},
		{"41 bytes", 0, rooted(2, text(41, 1)), api.ErrBlockForm},
		{"41 noughts", 0, rooted(2, noughts(41)), api.ErrBlockForm},
		{"47 bytes", 0, rooted(2, text(47, 1)), api.ErrBlockForm},
		{"48 noughts", 0, sectorOf(2, 48, ""), api.ErrBlockForm},
		{"255 noughts", 0, sectorOf(2, 255, ""), api.ErrBlockForm},
		{"less than it has", 0, sectorOf(2, 3, "root"), api.ErrBlockForm},
		{"a byte behind", 0, sectorOf(2, 4, "root\x00x"), api.ErrBlockForm},
		{"a byte at the end", 0, sealed(filled("RT\x02\x00\x00\x00\x00\x00\x00", 55)+"x", 56), api.ErrBlockForm},
		{"another letter", 0, sealed("ST"+rooted(2, "root")[2:56], 56), api.ErrBlockForm},
		{"another second letter", 0, sealed("RU"+rooted(2, "root")[2:56], 56), api.ErrBlockForm},
		{"small letters", 0, sealed("rt"+rooted(2, "root")[2:56], 56), api.ErrBlockForm},
		{"the number the other way round", 0, sealed("RT\x00\x00\x00\x00\x00\x02\x04root", 56), api.ErrBlockForm},
		{"without a sum", 0, rooted(2, "root")[:56] + noughts(8), api.ErrBlockForm},
	} {
		opens(t, x.name, laid(t, 32, map[int]string{x.n: x.s}), x.want)
		// And beside a good one: its number is always the lesser one of two good ones.
		d := laid(t, 32, map[int]string{x.n: x.s})
		b := []byte(d.Image())
		copy(b[64*(1-x.n%2):], rooted(1+x.n%2, "beside"))
		d, e := disk.Open(string(b))
		fine(t, e)
		root, number := opens(t, x.name+", beside", d, api.OK).Root()
		if (root == "beside") != (x.want != api.OK) || root == "beside" && number != 1+x.n%2 {
			t.Errorf("%s, beside: %q, %d", x.name, root, number)
		}
	}
}

// TestOpenOfTwoRoots: that of the greater number is told, however far ahead.
func TestOpenOfTwoRoots(t *testing.T) {
	for _, even := range []int{2, 4, 254, 256, 1 << 16, 1<<16 + 254, 1 << 32, maxNumber - 2, maxNumber} {
		for _, odd := range []int{1, 3, 5, 253, 255, 257, 1<<16 - 1, 1<<16 + 1, 1<<32 + 1, maxNumber - 3, maxNumber - 1} {
			d := laid(t, 32, map[int]string{0: rooted(even, "even"), 1: rooted(odd, "odd")})
			name := fmt.Sprint(even, " and ", odd)
			want := "even"
			if odd > even {
				want = "odd"
			}
			if root, number := opens(t, name, d, api.OK).Root(); root != want || number != max(odd, even) {
				t.Errorf("%s: %q, %d", name, root, number)
			}
		}
	}
}

// TestOpenOfBadSectors: what can't be read counts as noughts.
func TestOpenOfBadSectors(t *testing.T) {
	good := map[int]string{0: rooted(8, "eight"), 1: rooted(7, "seven")}
	zero := map[int]string{0: rooted(8, "eight"), 1: noughts(64)}
	one := map[int]string{0: text(64, 5), 1: rooted(7, "seven")}
	for _, x := range []struct {
		name  string
		texts map[int]string
		bad   []int
		want  api.Errno
		root  string
	}{
		{"both good", good, nil, api.OK, "eight"},
		{"0 is bad", good, []int{0}, api.OK, "seven"},
		{"1 is bad", good, []int{1}, api.OK, "eight"},
		{"both are bad", good, []int{0, 1}, api.ErrIO, ""},
		{"another is bad", good, []int{2, 3, 4}, api.OK, "eight"},
		{"in 0 alone, 0 is bad", zero, []int{0}, api.ErrIO, ""},
		{"in 0 alone, 1 is bad", zero, []int{1}, api.OK, "eight"},
		{"in 1 alone, 0 is bad", one, []int{0}, api.OK, "seven"},
		{"in 1 alone, 1 is bad", one, []int{1}, api.ErrIO, ""},
		{"in none", nil, nil, api.ErrBlockForm, ""},
		{"in none, 0 is bad", nil, []int{0}, api.ErrIO, ""},
		{"in none, 1 is bad", nil, []int{1}, api.ErrIO, ""},
		{"in none, both are bad", nil, []int{0, 1}, api.ErrIO, ""},
		{"in none, others are bad", nil, []int{2, 3, 4, 31}, api.ErrBlockForm, ""},
	} {
		d := laid(t, 32, x.texts)
		for _, n := range x.bad {
			fine(t, d.Bad(n, true))
		}
		if v := opens(t, x.name, d, x.want); v != nil {
			if root, _ := v.Root(); root != x.root {
				t.Errorf("%s: %q", x.name, root)
			}
		}
		fine(t, d.Crash(""))
		opens(t, x.name+", no power", d, api.ErrDead)
	}
}

// TestOpenOfLooseSectors: what was written last is read, though it may not stay.
func TestOpenOfLooseSectors(t *testing.T) {
	d := laid(t, 32, map[int]string{1: rooted(1, "stays")})
	fine(t, d.Write(0, rooted(2, "loose")))
	if root, number := opens(t, "loose", d, api.OK).Root(); root != "loose" || number != 2 {
		t.Errorf("%q, %d", root, number)
	}
	fine(t, d.Crash(""))
	d.Revive()
	if root, number := opens(t, "gone", d, api.OK).Root(); root != "stays" || number != 1 {
		t.Errorf("%q, %d", root, number)
	}
}

// FuzzOpen opens whatever stands on a disk, and under a right sum.
func FuzzOpen(f *testing.F) {
	f.Add(uint8(32), false, rooted(2, "a"), rooted(1, "b"))
	f.Add(uint8(33), true, rooted(4, "")[:56], rooted(3, text(40, 1))[:56])
	f.Add(uint8(40), true, rooted(maxNumber, "")[:56], rooted(maxNumber+1, text(41, 1))[:56])
	f.Add(uint8(31), false, "", "RT")
	f.Fuzz(func(t *testing.T, sectors uint8, seal bool, zero, one string) {
		texts := map[int]string{}
		for n, s := range []string{zero, one} {
			s = s[:min(len(s), 64)]
			if seal {
				s = sealed(s[:min(len(s), 56)], 56)
			}
			texts[n] = s
		}
		d := laid(t, 2+int(sectors)%60, texts)
		m, want := modelOpen(d.Clone())
		v, e := blocks.Open(d)
		if e != want || (v == nil) != (m == nil) {
			t.Fatalf("%t, %d, not %d", v != nil, e, want)
		}
		if m != nil && tells(v, d) != m.tells() {
			t.Fatalf("%s; not %s", tells(v, d), m.tells())
		}
	})
}

// P8.3

// outside are numbers of no block of a volume of so many: of the root's, and of none.
func outside(count int) []int {
	return []int{0, -1, -2, -8, -count, math.MinInt, count, count + 1, 4 * count, 4096, 1 << 16, 1 << 32, 1 << 62, 1<<62 + 1, math.MaxInt}
}

func TestOutside(t *testing.T) {
	for _, sectors := range []int{32, 35, 36, 16384} {
		v, d := formatted(t, sectors, "root")
		ahead := d.Clone()
		for _, vbn := range outside(sectors / 4) {
			if s, e := v.Read(vbn); s != "" || e != api.ErrBlockAt {
				t.Errorf("%d sectors, Read(%d): %q, %d", sectors, vbn, s, e)
			}
			for _, n := range []int{0, 240, 241} {
				if e := v.Write(vbn, text(n, 1)); e != api.ErrBlockAt {
					t.Errorf("%d sectors, Write(%d) of %d: %d", sectors, vbn, n, e)
				}
			}
		}
		if s := diskOther(d, ahead); s != "" || v.Dead() {
			t.Errorf("%d sectors: %s", sectors, s)
		}
		for _, vbn := range []int{1, 2, sectors/4 - 2, sectors/4 - 1} {
			fine(t, v.Write(vbn, fmt.Sprint(vbn)))
			for _, k := range []*blocks.Vol{v, opened(t, d)} {
				if s, e := k.Read(vbn); s != fmt.Sprint(vbn) || e != api.OK {
					t.Errorf("%d sectors, Read(%d): %q, %d", sectors, vbn, s, e)
				}
			}
		}
	}
}

// TestWrite: four sectors are written, in order, and are loose.
func TestWrite(t *testing.T) {
	for _, n := range []int{0, 1, 61, 62, 63, 64, 126, 190, 200, 239, 240} {
		for _, vbn := range []int{1, 2, 6, 7} {
			v, d := formatted(t, 34, "root")
			image := d.Image()
			p := text(n, vbn)
			fine(t, v.Write(vbn, p))
			if d.Image() != image || d.Loose() != 4 || d.Steps() != 7 {
				t.Errorf("%d: %d loose, %d steps", n, d.Loose(), d.Steps())
			}
			// One sector after the other stays.
			for many := range 5 {
				c := d.Clone()
				fine(t, c.Crash(string([]byte{1<<many - 1})))
				want := image[:256*vbn] + carrying(p)[:64*many] + image[256*vbn+64*many:]
				if c.Image() != want {
					t.Errorf("%d, %d sectors: there stays %q", n, many, c.Image())
				}
			}
			if s, e := opened(t, d).Read(vbn); s != p || e != api.OK {
				t.Errorf("%d: %q, %d", n, s, e)
			}
		}
	}
}

func TestWriteTooLong(t *testing.T) {
	v, d := formatted(t, 32, "root")
	fine(t, v.Write(1, "one"))
	ahead, told := d.Clone(), tells(v, d)
	for _, n := range []int{241, 242, 248, 256, 65536 + 5, 1 << 20} {
		if e := v.Write(1, text(n, 1)); e != api.ErrBlockLong {
			t.Errorf("%d: %d", n, e)
		}
	}
	if s := diskOther(d, ahead); s != "" || tells(v, d) != told {
		t.Error(s, tells(v, d))
	}
}

// TestRead: what stands in a block, of whatever length; what is no block's is told, and not kept.
func TestRead(t *testing.T) {
	for n := range 241 {
		d := laid(t, 33, map[int]string{1: rooted(1, "r"), 4: carrying(text(n, 1)), 8: blockOf(n+1, text(n, 1)), 28: carrying(noughts(n))})
		v := opened(t, d)
		ahead := d.Clone()
		for _, want := range []struct {
			vbn int
			s   string
			e   api.Errno
		}{
			{1, text(n, 1), api.OK},
			{2, "", api.ErrBlockSum},
			{3, "", api.ErrBlockSum},
			{7, noughts(n), api.OK},
			{1, text(n, 1), api.OK},
		} {
			s, e := v.Read(want.vbn)
			if want.vbn == 2 && n < 240 { // it carries a nought more
				want.s, want.e = text(n, 1)+"\x00", api.OK
			}
			if s != want.s || e != want.e {
				t.Errorf("%d bytes, Read(%d): %q, %d, not %q, %d", n, want.vbn, s, e, want.s, want.e)
			}
		}
		if s := diskOther(d, ahead); s != "" || v.Dead() {
			t.Error(s)
		}
	}
}

// TestReadOfWhatIsKept: neither a bad sector nor the power matters.
func TestReadOfWhatIsKept(t *testing.T) {
	v, d := formatted(t, 32, "root")
	fine(t, v.Write(1, "one"), v.Write(2, "two"))
	u := opened(t, d)
	if s, e := u.Read(2); s != "two" || e != api.OK {
		t.Fatalf("%q, %d", s, e)
	}
	for n := range 32 {
		fine(t, d.Bad(n, true))
	}
	for _, power := range []bool{true, false} {
		if !power {
			fine(t, d.Crash(""))
		}
		for range 2 {
			if s, e := v.Read(1); s != "one" || e != api.OK {
				t.Errorf("%t: %q, %d", power, s, e)
			}
			if s, e := u.Read(2); s != "two" || e != api.OK {
				t.Errorf("%t: %q, %d", power, s, e)
			}
		}
	}
	if v.Dead() || u.Dead() {
		t.Error("dead")
	}
	if s, e := u.Read(1); s != "" || e != api.ErrDead || !u.Dead() {
		t.Errorf("%q, %d, dead %t", s, e, u.Dead())
	}
	if s, e := u.Read(2); s != "" || e != api.ErrDead {
		t.Errorf("dead: %q, %d", s, e)
	}
	if s, e := v.Read(1); s != "one" || e != api.OK || v.Dead() {
		t.Errorf("%q, %d, dead %t", s, e, v.Dead())
	}
}

// TestReadOfBadSectors: each one of the block's ends a Read, others don't.
func TestReadOfBadSectors(t *testing.T) {
	for bad := range 33 {
		v, d := formatted(t, 33, "root")
		fine(t, v.Write(3, "three"), v.Write(4, "four"), d.Write(16, noughts(64)))
		u := opened(t, d)
		fine(t, d.Bad(bad, true))
		for range 2 {
			s, e := u.Read(3)
			if isIn := bad >= 12 && bad < 16; isIn && (s != "" || e != api.ErrIO) || !isIn && (s != "three" || e != api.OK) {
				t.Errorf("%d: %q, %d", bad, s, e)
			}
			// That it can't be read is told ahead of what stands there.
			want := api.ErrBlockSum
			if bad >= 16 && bad < 20 {
				want = api.ErrIO
			}
			if s, e := u.Read(4); s != "" || e != want {
				t.Errorf("%d: %q, %d, not %d", bad, s, e, want)
			}
		}
		fine(t, d.Bad(bad, false))
		if s, e := u.Read(3); s != "three" || e != api.OK || u.Dead() {
			t.Errorf("%d is good: %q, %d", bad, s, e)
		}
	}
}

// TestWriteOfBadSectors: the sectors ahead of it are written, and no payload is kept.
func TestWriteOfBadSectors(t *testing.T) {
	for bad := range 36 {
		v, d := formatted(t, 36, "root")
		fine(t, v.Write(3, text(240, 3)), v.Write(4, "four"), v.Commit("root"))
		m, e := modelOpen(d.Clone())
		fine(t, e)
		m.use(3, text(240, 3))
		m.use(4, "four")
		fine(t, d.Bad(bad, true), m.d.Bad(bad, true))
		want := api.OK
		if bad >= 12 && bad < 16 {
			want = api.ErrIO
		}
		for i := range 2 {
			if e := v.Write(3, text(240, 5+i)); e != want || m.write(3, text(240, 5+i)) != want {
				t.Fatalf("%d: %d", bad, e)
			}
			if s := other(v, d, m); s != "" {
				t.Fatalf("%d: %s", bad, s)
			}
		}
		fine(t, d.Bad(bad, false), m.d.Bad(bad, false))
		s, e := v.Read(3)
		if w, f := m.read(3); s != w || e != f {
			t.Errorf("%d is good: %q, %d, not %q, %d", bad, s, e, w, f)
		}
		// At the first sector nothing was written, behind it a part.
		if bad == 12 && s != text(240, 3) || bad > 12 && bad < 16 && e != api.ErrBlockSum {
			t.Errorf("%d is good: %q, %d", bad, s, e)
		}
		fine(t, v.Write(3, "good"), m.write(3, "good"))
		if s := other(v, d, m); s != "" || v.Dead() {
			t.Errorf("%d is good: %s", bad, s)
		}
	}
}

// TestKept: the payloads of the 32 blocks that were used last, by Read or Write.
func TestKept(t *testing.T) {
	for _, many := range []int{1, 31, 32, 33, 40, 64, 70} {
		p := newPair(t, 300, "root")
		for vbn := 1; vbn <= many; vbn++ {
			p.hold(t, []call{{callWrite, vbn, text(vbn, vbn)}})
		}
		if len(p.m.kept) != min(many, room) {
			t.Fatalf("the model keeps %d", len(p.m.kept))
		}
		p.holdOrder(t)
		p.hold(t, []call{{callOpen, 0, ""}})
		for vbn := many; vbn > 0; vbn-- {
			p.hold(t, []call{{callRead, vbn, ""}})
		}
		p.holdOrder(t)
		// Calls that are no use of their block, or of one that is kept already.
		p.hold(t, []call{
			{callRead, many, ""}, {callWrite, 1, text(241, 1)}, {callRead, 0, ""}, {callRead, 75, ""},
			{callRead, 74, ""}, {callWrite, 0, "x"}, {callRead, max(many/2, 1), ""}, {callWrite, max(many/3, 1), "x"},
		})
		p.holdOrder(t)
		p.hold(t, []call{{callBad, 4*many + 2, ""}, {callWrite, many, "y"}, {callRead, many, ""}})
		p.holdOrder(t)
		p.hold(t, []call{{callCommit, 0, "next"}, {callBad, 1, ""}, {callCommit, 0, "none"}})
		p.holdOrder(t)
	}
}

// P8.4

// TestCommit: what stays behind each call, and in how many steps.
func TestCommit(t *testing.T) {
	v, d := formatted(t, 32, "1")
	ahead := d.Image()[128:]
	zero, one := noughts(64), rooted(1, "1")
	for number := 2; number < 12; number++ {
		root := text(number*4-8, number)
		fine(t, v.Write(5, fmt.Sprint(number)))
		steps := d.Steps()
		fine(t, v.Commit(root))
		if number%2 == 0 {
			zero = rooted(number, root)
		} else {
			one = rooted(number, root)
		}
		if d.Image() != zero+one+ahead[:256*5-128]+carrying(fmt.Sprint(number))+ahead[256*6-128:] {
			t.Fatalf("%d: there stays %q", number, d.Image())
		}
		if d.Steps() != steps+3 || d.Loose() != 0 {
			t.Errorf("%d: %d steps, %d loose", number, d.Steps()-steps, d.Loose())
		}
		for _, k := range []*blocks.Vol{v, opened(t, d)} {
			if r, n := k.Root(); r != root || n != number {
				t.Errorf("%q, %d, not %q, %d", r, n, root, number)
			}
		}
	}
}

func TestCommitTooLong(t *testing.T) {
	v, d := formatted(t, 32, "root")
	fine(t, v.Write(1, "one"))
	ahead, told := d.Clone(), tells(v, d)
	for _, n := range []int{41, 42, 47, 48, 64, 255, 256, 256 + 40, 1 << 20} {
		if e := v.Commit(text(n, 1)); e != api.ErrBlockLong {
			t.Errorf("%d: %d", n, e)
		}
	}
	if s := diskOther(d, ahead); s != "" || tells(v, d) != told {
		t.Error(s, tells(v, d))
	}
	for n := range 41 {
		fine(t, v.Commit(text(n, n)))
		if root, number := opened(t, d).Root(); root != text(n, n) || number != n+2 {
			t.Errorf("%d: %q, %d", n, root, number)
		}
	}
}

// TestCommitOfTheLastNumber: behind 2^40 there is none.
func TestCommitOfTheLastNumber(t *testing.T) {
	for _, from := range []int{255, 1<<16 - 1, 1<<32 - 1, 1 << 39, maxNumber - 2, maxNumber - 1, maxNumber} {
		d := laid(t, 32, map[int]string{from % 2: rooted(from, "from"), 1 - from%2: rooted(from-1, "ahead")})
		v := opened(t, d)
		number, root := from, "from"
		for i := range 3 {
			fine(t, v.Write(1, fmt.Sprint(i)))
			ahead := d.Clone()
			want := api.OK
			if number == maxNumber {
				want = api.ErrBlockForm
			} else {
				number, root = number+1, fmt.Sprint(i)
			}
			if e := v.Commit(fmt.Sprint(i)); e != want {
				t.Errorf("from %d: %d, not %d", from, e, want)
			}
			if s := diskOther(d, ahead); want != api.OK && s != "" {
				t.Errorf("from %d: %s", from, s)
			}
			for _, k := range []*blocks.Vol{v, opened(t, d)} {
				if r, n := k.Root(); r != root || n != number {
					t.Errorf("from %d: %q, %d, not %q, %d", from, r, n, root, number)
				}
			}
		}
		if e := v.Commit(text(41, 1)); e != api.ErrBlockLong {
			t.Errorf("from %d, too long: %d", from, e)
		}
	}
}

// TestCommitOfBadSectors: the root is what it was; what was written stays all the same.
func TestCommitOfBadSectors(t *testing.T) {
	for number := 1; number < 4; number++ {
		for bad := range 8 {
			v, d := formatted(t, 32, "1")
			for n := 2; n <= number; n++ {
				fine(t, v.Commit(fmt.Sprint(n)))
			}
			fine(t, v.Write(2, "two"))
			m, e := modelOpen(d.Clone())
			fine(t, e)
			m.use(2, "two")
			fine(t, d.Bad(bad, true), m.d.Bad(bad, true))
			want := api.OK
			if bad == (number+1)%2 {
				want = api.ErrIO
			}
			if e := v.Commit("next"); e != want || m.commit("next") != want {
				t.Fatalf("number %d, bad %d: %d, not %d", number, bad, e, want)
			}
			if s := other(v, d, m); s != "" {
				t.Fatalf("number %d, bad %d: %s", number, bad, s)
			}
			fine(t, d.Bad(bad, false), m.d.Bad(bad, false), v.Commit("good"), m.commit("good"))
			if s := other(v, d, m); s != "" {
				t.Fatalf("number %d, %d is good: %s", number, bad, s)
			}
			if root, n := opened(t, d).Root(); root != "good" || want == api.ErrIO && n != number+1 {
				t.Errorf("number %d, %d is good: %q, %d", number, bad, root, n)
			}
		}
	}
}

// P8.5

// acts are calls that are asked of the disk, and in how many steps.
var acts = []struct {
	name  string
	steps int
	do    func(v *blocks.Vol) api.Errno
}{
	{"Read", 0, func(v *blocks.Vol) api.Errno { _, e := v.Read(2); return e }},
	{"Write", 4, func(v *blocks.Vol) api.Errno { return v.Write(1, "more") }},
	{"Write anew", 4, func(v *blocks.Vol) api.Errno { return v.Write(3, "more") }},
	{"Commit", 3, func(v *blocks.Vol) api.Errno { return v.Commit("more") }},
}

// TestDeadForGood: also behind Revive; the root that it tells is what it was.
func TestDeadForGood(t *testing.T) {
	for _, act := range acts {
		for step := range act.steps + 1 {
			for _, keep := range []string{"", "\xff"} {
				v, d := formatted(t, 32, "1")
				fine(t, v.Write(1, "one"), v.Commit("2"))
				if step == 0 {
					fine(t, d.Crash(keep))
				} else {
					fine(t, d.Arm(step, keep))
				}
				if v.Dead() {
					t.Errorf("%s, step %d: it is dead ahead of the call", act.name, step)
				}
				if e := act.do(v); e != api.ErrDead {
					t.Errorf("%s, step %d: %d", act.name, step, e)
				}
				staysDead(t, fmt.Sprintf("%s, step %d, keep %q", act.name, step, keep), v, d)
			}
		}
	}
}

// staysDead revives a disk, the volume of which tells the root that it told ahead of the call in which the power went.
func staysDead(t *testing.T, name string, v *blocks.Vol, d *disk.Disk) {
	t.Helper()
	const want = `8 blocks, root "2", 2, dead true, kept`
	if tells(v, d) != want {
		t.Errorf("%s: %s", name, tells(v, d))
	}
	d.Revive()
	ahead := d.Clone()
	for _, x := range []struct {
		do   func() api.Errno
		want api.Errno
	}{
		{func() api.Errno { _, e := v.Read(1); return e }, api.ErrDead},
		{func() api.Errno { _, e := v.Read(2); return e }, api.ErrDead},
		{func() api.Errno { _, e := v.Read(8); return e }, api.ErrBlockAt},
		{func() api.Errno { return v.Write(1, text(240, 1)) }, api.ErrDead},
		{func() api.Errno { return v.Write(1, text(241, 1)) }, api.ErrBlockLong},
		{func() api.Errno { return v.Write(0, text(241, 1)) }, api.ErrBlockAt},
		{func() api.Errno { return v.Commit(text(40, 1)) }, api.ErrDead},
		{func() api.Errno { return v.Commit(text(41, 1)) }, api.ErrBlockLong},
	} {
		if e := x.do(); e != x.want {
			t.Errorf("%s: behind Revive: %d, not %d", name, e, x.want)
		}
	}
	if s, e := v.Read(1); s != "" || e != api.ErrDead {
		t.Errorf("%s: %q is told beside %d", name, s, e)
	}
	if s := diskOther(d, ahead); s != "" || tells(v, d) != want {
		t.Errorf("%s: behind Revive: %s, %s", name, tells(v, d), s)
	}
	if k := opened(t, d); k.Dead() || k.Write(1, "x") != api.OK || k.Commit("x") != api.OK {
		t.Errorf("%s: opened: %s", name, tells(k, d))
	}
}

// TestDeadAheadOfTheLastNumber: of a dead volume that is not told.
func TestDeadAheadOfTheLastNumber(t *testing.T) {
	d := laid(t, 32, map[int]string{0: rooted(maxNumber, "last")})
	v := opened(t, d)
	fine(t, d.Crash(""))
	if e := v.Commit("x"); e != api.ErrBlockForm || v.Dead() {
		t.Errorf("%d, dead %t", e, v.Dead())
	}
	if e := v.Write(1, "x"); e != api.ErrDead || !v.Dead() {
		t.Errorf("%d, dead %t", e, v.Dead())
	}
	if e := v.Commit("x"); e != api.ErrDead {
		t.Errorf("dead: %d", e)
	}
}

// TestNotDead: of other errors, and of a power that went and came back between calls.
func TestNotDead(t *testing.T) {
	v, d := formatted(t, 32, "1")
	fine(t, d.Bad(0, true), d.Bad(4, true))
	if _, e := v.Read(1); e != api.ErrIO || v.Dead() {
		t.Errorf("%d, dead %t", e, v.Dead())
	}
	if e := v.Write(1, "x"); e != api.ErrIO || v.Dead() {
		t.Errorf("%d, dead %t", e, v.Dead())
	}
	if e := v.Commit("x"); e != api.ErrIO || v.Dead() {
		t.Errorf("%d, dead %t", e, v.Dead())
	}
	if _, e := v.Read(2); e != api.ErrBlockSum || v.Dead() {
		t.Errorf("%d, dead %t", e, v.Dead())
	}
	fine(t, d.Bad(0, false), d.Bad(4, false), v.Write(3, "kept"), d.Crash(""))
	if s, e := v.Read(3); s != "kept" || e != api.OK || v.Dead() {
		t.Errorf("%q, %d, dead %t", s, e, v.Dead())
	}
	// What is refused is not asked of the disk.
	if _, e := v.Read(8); e != api.ErrBlockAt {
		t.Error(e)
	}
	if v.Write(0, "x") != api.ErrBlockAt || v.Write(1, text(241, 1)) != api.ErrBlockLong || v.Commit(text(41, 1)) != api.ErrBlockLong || v.Dead() {
		t.Error(tells(v, d))
	}
	d.Revive()
	fine(t, v.Write(1, "on"), v.Commit("2"))
	if s, e := opened(t, d).Read(1); s != "on" || e != api.OK || v.Dead() {
		t.Errorf("%q, %d", s, e)
	}
}

func TestClone(t *testing.T) {
	v, d := formatted(t, 300, "1")
	fine(t, v.Write(1, "one"), v.Write(2, "two"), v.Commit("2"), v.Write(3, "three"))
	c := d.Clone()
	k := v.Clone(c)
	if tells(k, c) != tells(v, d) {
		t.Errorf("%s; not %s", tells(k, c), tells(v, d))
	}
	// Both go on, over the same blocks.
	fine(t, v.Write(1, "of the first"), k.Write(1, "of the second"), v.Write(4, "a"), k.Write(5, "b"), v.Commit("first"), k.Commit("second"), k.Commit("third"))
	for _, x := range []struct {
		v      *blocks.Vol
		d      *disk.Disk
		root   string
		number int
		reads  map[int]string
	}{
		{v, d, "first", 3, map[int]string{1: "of the first", 2: "two", 3: "three", 4: "a"}},
		{k, c, "third", 4, map[int]string{1: "of the second", 2: "two", 3: "three", 5: "b"}},
	} {
		for _, w := range []*blocks.Vol{x.v, opened(t, x.d)} {
			if root, number := w.Root(); root != x.root || number != x.number {
				t.Errorf("%q, %d, not %q, %d", root, number, x.root, x.number)
			}
			for vbn := 1; vbn < 6; vbn++ {
				s, e := w.Read(vbn)
				if want, ok := x.reads[vbn]; s != want || (e == api.OK) != ok {
					t.Errorf("%s: Read(%d): %q, %d, not %q", x.root, vbn, s, e, want)
				}
			}
		}
	}
	fine(t, d.Crash(""))
	if e := v.Commit("z"); e != api.ErrDead {
		t.Error(e)
	}
	if !v.Dead() || k.Dead() || k.Write(6, "z") != api.OK || k.Commit("z") != api.OK {
		t.Error("the clone is dead, too")
	}
	again := d.Clone()
	again.Revive()
	a := v.Clone(again)
	if _, e := a.Read(1); !a.Dead() || e != api.ErrDead || a.Write(1, "z") != api.ErrDead || a.Commit("z") != api.ErrDead || tells(a, again) != tells(v, d) {
		t.Error("a dead one's clone")
	}
}

// TestCloneKeepsTheOrder: a clone's payloads go in the order in which the original's do, and these in the one in which they would have.
func TestCloneKeepsTheOrder(t *testing.T) {
	chance := rand.New(rand.NewSource(85))
	for range 20 {
		p := newPair(t, 300, "root")
		for range 20 + chance.Intn(60) {
			vbn := 1 + chance.Intn(45)
			p.hold(t, []call{{callWrite + chance.Intn(2), vbn, text(3, vbn)}})
		}
		c := p.clone()
		c.holdOrder(t)
		p.holdOrder(t)
		p.clone().clone().holdOrder(t)
		p.holdOrder(t)
	}
}

// Rows of calls.

// call is one on a volume, or on its disk.
type call struct {
	kind, n int
	s       string // what is written, or kept
}

// Kinds of calls.
const (
	callWrite = iota
	callRead
	callCommit
	callOpen
	callFormat
	callBad
	callGood
	callArm
	callCrash
	callRevive
	callKinds
)

func (x call) String() string {
	name := [...]string{"Write", "Read", "Commit", "Open", "Format", "Bad", "Good", "Arm", "Crash", "Revive"}[x.kind]
	return fmt.Sprintf("%s(%d, %d bytes)", name, x.n, len(x.s))
}

// answer is what a call answers.
type answer struct {
	s string
	e api.Errno
}

// pair is a volume and what the model says of it, each on a disk of its own.
type pair struct {
	v *blocks.Vol
	d *disk.Disk
	m *model
}

func newPair(t testing.TB, sectors int, root string) *pair {
	v, d := formatted(t, sectors, root)
	m, e := modelFormat(scratched(t, sectors), root)
	fine(t, e)
	return &pair{v, d, m}
}

func (p *pair) clone() *pair {
	m := *p.m
	d := p.d.Clone()
	m.d, m.kept = p.m.d.Clone(), slices.Clone(p.m.kept)
	return &pair{p.v.Clone(d), d, &m}
}

// on makes a call on both, and tells both answers. What can't be opened or formatted leaves the volume that was there.
func (p *pair) on(x call) (got, want answer) {
	switch x.kind {
	case callWrite:
		return answer{"", p.v.Write(x.n, x.s)}, answer{"", p.m.write(x.n, x.s)}
	case callRead:
		got.s, got.e = p.v.Read(x.n)
		want.s, want.e = p.m.read(x.n)
		return got, want
	case callCommit:
		return answer{"", p.v.Commit(x.s)}, answer{"", p.m.commit(x.s)}
	case callOpen, callFormat:
		var v *blocks.Vol
		var m *model
		if x.kind == callOpen {
			v, got.e = blocks.Open(p.d)
			m, want.e = modelOpen(p.m.d)
		} else {
			v, got.e = blocks.Format(p.d, x.s)
			m, want.e = modelFormat(p.m.d, x.s)
		}
		if got.e == api.OK && want.e == api.OK {
			p.v, p.m = v, m
		}
		return got, want
	}
	return answer{"", onDisk(p.d, x)}, answer{"", onDisk(p.m.d, x)}
}

// onDisk makes one of a disk's calls.
func onDisk(d *disk.Disk, x call) api.Errno {
	switch x.kind {
	case callBad, callGood:
		return d.Bad(x.n, x.kind == callBad)
	case callArm:
		return d.Arm(x.n, x.s)
	case callCrash:
		return d.Crash(x.s)
	}
	d.Revive()
	return api.OK
}

// hold makes calls on both.
func (p *pair) hold(t *testing.T, calls []call) {
	t.Helper()
	for i, x := range calls {
		if got, want := p.on(x); got != want {
			t.Fatalf("%v: the last one answers %q, %d, not %q, %d", calls[:i+1], got.s, got.e, want.s, want.e)
		}
		if s := other(p.v, p.d, p.m); s != "" {
			t.Fatalf("behind %v: %s", calls[:i+1], s)
		}
	}
}

// holdOrder writes blocks that are not kept on a clone of both, so that those which are kept go one by one.
func (p *pair) holdOrder(t *testing.T) {
	t.Helper()
	c := p.clone()
	for vbn := c.v.Blocks() - 1; vbn > 0 && len(p.m.kept) > 0; vbn-- {
		if slices.ContainsFunc(p.m.kept, func(x payload) bool { return x.vbn == vbn }) {
			continue
		}
		if got, want := c.on(call{callWrite, vbn, "new"}); got != want {
			t.Fatalf("%d, not %d", got.e, want.e)
		}
		if a, b := tells(c.v, c.d), c.m.tells(); a != b {
			t.Fatalf("%s; not %s", a, b)
		}
	}
}

// smallCalls are some on a volume of 8 blocks.
func smallCalls(depth int) []call {
	return []call{
		{callWrite, 1, text(100+depth, depth)},
		{callWrite, 1, ""},
		{callWrite, 2, text(9, depth)},
		{callRead, 1, ""},
		{callRead, 2, ""},
		{callCommit, 0, text(depth, depth)},
		{callOpen, 0, ""},
		{callBad, 6, ""},
		{callBad, 0, ""},
		{callGood, 6, ""},
		{callArm, 2, "\x02"},
		{callArm, 3, "\x09"},
		{callCrash, 0, "\x0f"},
		{callRevive, 0, ""},
	}
}

// TestShortRows: each row of four calls, by clones.
func TestShortRows(t *testing.T) {
	var goOn func(p *pair, ahead []call)
	goOn = func(p *pair, ahead []call) {
		if s := other(p.v, p.d, p.m); s != "" {
			t.Fatalf("behind %v: %s", ahead, s)
		}
		if len(ahead) == 4 {
			return
		}
		for _, x := range smallCalls(len(ahead)) {
			c := p.clone()
			row := append(slices.Clone(ahead), x)
			if got, want := c.on(x); got != want {
				t.Fatalf("%v: the last one answers %q, %d, not %q, %d", row, got.s, got.e, want.s, want.e)
			}
			goOn(c, row)
		}
		if s := other(p.v, p.d, p.m); s != "" {
			t.Fatalf("behind %v, and what became of its clones: %s", ahead, s)
		}
	}
	p := newPair(t, 32, "root")
	p.hold(t, []call{{callWrite, 1, "one"}, {callCommit, 0, "next"}})
	goOn(p, nil)
}

// some is a call by chance on a volume of so many blocks.
func some(chance *rand.Rand, count int) call {
	keep := make([]byte, 1+chance.Intn(4))
	chance.Read(keep)
	vbn := chance.Intn(count + 1)
	switch roll := chance.Intn(100); {
	case roll < 40:
		return call{callWrite, vbn, text(chance.Intn(244), chance.Intn(99))}
	case roll < 65:
		return call{callRead, vbn, ""}
	case roll < 75:
		return call{callCommit, 0, text(chance.Intn(42), chance.Intn(99))}
	case roll < 79:
		return call{callOpen, 0, ""}
	case roll < 80:
		return call{callFormat, 0, text(chance.Intn(42), chance.Intn(99))}
	case roll < 83:
		return call{callBad, chance.Intn(4 * count), ""}
	case roll < 88:
		return call{callGood, chance.Intn(4 * count), ""}
	case roll < 92:
		return call{callArm, chance.Intn(20), string(keep)}
	case roll < 93:
		return call{callCrash, 0, string(keep)}
	}
	return call{callRevive, 0, ""}
}

// TestLongRows: long rows of calls, which now and then are their clones.
func TestLongRows(t *testing.T) {
	chance := rand.New(rand.NewSource(8))
	for range 60 {
		count := []int{8, 20, 40, 60}[chance.Intn(4)]
		p := newPair(t, 4*count+chance.Intn(4), text(chance.Intn(41), 1))
		for range 120 {
			p.hold(t, []call{some(chance, count)})
			switch chance.Intn(20) {
			case 0:
				c := p.clone()
				p.v.Write(1, "gone")
				p.v.Commit("gone")
				p = c
			case 1:
				p.holdOrder(t)
			}
		}
	}
}

// FuzzCalls makes whatever calls bytes say, three bytes each.
func FuzzCalls(f *testing.F) {
	f.Add(uint8(0), "\x00\x01a\x00\x02b\x02\x05\x00\x01\x01c\x03\x00\x00")
	f.Add(uint8(9), "\x07\x03\x01\x00\x07a\x09\x00\x00\x03\x00\x00\x01\x02\x00\x02\x04x")
	f.Fuzz(func(t *testing.T, sectors uint8, s string) {
		count := 32 + int(sectors)%60
		var calls []call
		for i := 0; i+2 < min(len(s), 300); i += 3 {
			x := call{int(s[i]) % callKinds, int(int8(s[i+1])), s[i+2 : i+3]}
			switch x.kind {
			case callWrite:
				x.s = text(int(s[i+2]), int(s[i]))
			case callCommit, callFormat:
				x.s = text(int(s[i+1])%42, int(s[i]))
			case callBad, callGood:
				x.n = int(s[i+1]) % count
			}
			calls = append(calls, x)
		}
		newPair(t, count, "root").hold(t, calls)
	})
}

// P8.6

// ledger is what a volume's disk must tell, wherever the power goes: the root of the last Commit that was answered OK with what the blocks carried then, or those of the one in which it went.
type ledger struct {
	roots []string // those that may be told; the last one is that of the Commit in which the power went, if there is one
	then  map[int]string
	now   map[int]string // by all Writes that were answered OK
	again map[int]bool   // written since that Commit, wholly or in part
}

func newLedger(root string) *ledger {
	return &ledger{[]string{root}, map[int]string{}, map[int]string{}, map[int]bool{}}
}

// make makes a call on a volume, and notes what becomes of it.
func (l *ledger) make(v *blocks.Vol, x call) api.Errno {
	_, number := v.Root()
	if x.kind == callWrite {
		l.again[x.n] = true
		e := v.Write(x.n, x.s)
		if e == api.OK {
			l.now[x.n] = x.s
		} else {
			delete(l.now, x.n)
		}
		return e
	}
	e := v.Commit(x.s)
	next := fmt.Sprintf("%q, %d", x.s, number+1)
	if e == api.OK {
		l.roots, l.then, l.again = []string{next}, map[int]string{}, map[int]bool{}
		for vbn, s := range l.now {
			l.then[vbn] = s
		}
	} else {
		l.roots = append(l.roots, next)
	}
	return e
}

// other is in what a volume that was opened behind a crash is none of those that it may be; nothing if it is one.
func (l *ledger) other(v *blocks.Vol) string {
	root, number := v.Root()
	told := fmt.Sprintf("%q, %d", root, number)
	i := slices.Index(l.roots, told)
	if i < 0 {
		return fmt.Sprintf("root %s, none of %s", told, l.roots)
	}
	carried, again := l.then, l.again
	if i == 1 {
		carried, again = l.now, nil
	}
	for vbn, want := range carried {
		if again[vbn] {
			continue
		}
		if s, e := v.Read(vbn); s != want || e != api.OK {
			return fmt.Sprintf("root %s: block %d: %q, %d, not %q", told, vbn, s, e, want)
		}
	}
	return ""
}

// keeps are sets that may be kept: of no loose sector, of all, of each one alone, of all but each one, and others by chance.
func keeps(chance *rand.Rand) []string {
	all := "\xff\xff\xff\xff"
	sets := []string{"", all, "\x55\x55\x55\x55", "\xaa\xaa\xaa\xaa"}
	for bit := range 20 {
		one, but := []byte(noughts(4)), []byte(all)
		one[bit/8] ^= 1 << (bit % 8)
		but[bit/8] ^= 1 << (bit % 8)
		sets = append(sets, string(one), string(but))
	}
	for range 8 {
		b := make([]byte, 4)
		chance.Read(b)
		sets = append(sets, string(b))
	}
	return sets
}

// crashRow is a row of Writes and Commits by chance, on a few blocks.
func crashRow(chance *rand.Rand) []call {
	var row []call
	for i := range 6 + chance.Intn(6) {
		if chance.Intn(3) == 0 {
			row = append(row, call{callCommit, 0, text(chance.Intn(41), i)})
		} else {
			row = append(row, call{callWrite, 1 + chance.Intn(5), text(chance.Intn(241), i)})
		}
	}
	return append(row, call{callCommit, 0, "last"})
}

// TestCrashByCrash: the power goes in each step of rows, with sets of all kinds.
func TestCrashByCrash(t *testing.T) {
	chance := rand.New(rand.NewSource(86))
	rows := [][]call{
		{{callWrite, 1, "a"}, {callCommit, 0, "a"}, {callWrite, 2, "b"}, {callCommit, 0, "b"}, {callWrite, 3, "c"}, {callCommit, 0, "c"}},
		{{callCommit, 0, ""}, {callCommit, 0, ""}, {callCommit, 0, ""}},
		{{callWrite, 1, text(240, 1)}, {callWrite, 1, text(240, 2)}, {callWrite, 2, text(240, 3)}, {callCommit, 0, text(40, 1)}, {callWrite, 1, text(240, 4)}, {callCommit, 0, text(40, 2)}},
	}
	for range 8 {
		rows = append(rows, crashRow(chance))
	}
	for _, row := range rows {
		for step := 1; crashIn(t, row, step, keeps(chance)); step++ {
		}
	}
}

// crashIn lets the power go in a step of a row, with each of some sets; false, if the row has fewer.
func crashIn(t *testing.T, row []call, step int, keeps []string) bool {
	t.Helper()
	for _, keep := range keeps {
		v, d := formatted(t, 33, "first")
		fine(t, d.Arm(step, keep))
		l := newLedger(`"first", 1`)
		for _, x := range row {
			if l.make(v, x) == api.ErrDead {
				break
			}
		}
		if !d.Dead() {
			return false
		}
		d.Revive()
		k := opened(t, d)
		if s := l.other(k); s != "" {
			t.Fatalf("%v: the power goes in step %d, keep %q: %s", row, step, keep, s)
		}
		_, number := k.Root()
		fine(t, k.Write(6, "on"), k.Commit("on"))
		k = opened(t, d)
		root, next := k.Root()
		if s, e := k.Read(6); root != "on" || next != number+1 || s != "on" || e != api.OK {
			t.Fatalf("%v: behind step %d, keep %q it does not go on: %s", row, step, keep, tells(k, d))
		}
	}
	return true
}

// TestCrashBehindCrash: what was opened goes on, and the power goes again.
func TestCrashBehindCrash(t *testing.T) {
	chance := rand.New(rand.NewSource(6))
	for range 40 {
		v, d := formatted(t, 48, "first")
		l := newLedger(`"first", 1`)
		for crash := range 25 {
			keep := make([]byte, 5)
			chance.Read(keep)
			fine(t, d.Arm(1+chance.Intn(40), string(keep)))
			for i := 0; !d.Dead(); i++ {
				x := call{callWrite, 1 + chance.Intn(11), text(chance.Intn(241), crash+i)}
				if chance.Intn(4) == 0 {
					x = call{callCommit, 0, text(chance.Intn(41), crash+i)}
				}
				l.make(v, x)
			}
			d.Revive()
			v = opened(t, d)
			if s := l.other(v); s != "" {
				t.Fatalf("crash %d: %s", crash, s)
			}
			// From here on what the blocks carry is what they tell.
			root, number := v.Root()
			l = newLedger(fmt.Sprintf("%q, %d", root, number))
			for vbn := 1; vbn < 12; vbn++ {
				if s, e := v.Read(vbn); e == api.OK {
					l.then[vbn], l.now[vbn] = s, s
				}
			}
		}
	}
}

// The examples.

func TestExamples(t *testing.T) {
	d, e := disk.New(32)
	fine(t, e)
	v, e := blocks.Format(d, "a")
	fine(t, e)
	if root, number := v.Root(); root != "a" || number != 1 {
		t.Errorf("%q, %d", root, number)
	}
	fine(t, v.Write(1, "x"), v.Commit("b"))
	if root, number := v.Root(); root != "b" || number != 2 {
		t.Errorf("%q, %d", root, number)
	}
	if s, e := v.Read(2); s != "" || e != api.ErrBlockSum {
		t.Errorf("%q, %d", s, e)
	}
	if e := v.Write(0, "x"); e != api.ErrBlockAt {
		t.Error(e)
	}
}

// What is kept, and how long it takes.

// taken is how much memory there is in use.
func taken() uint64 {
	var m runtime.MemStats
	runtime.GC()
	runtime.ReadMemStats(&m)
	return m.HeapAlloc
}

// TestKeepsLittle: not the texts of which a payload or a root is a part.
func TestKeepsLittle(t *testing.T) {
	for name, do := range map[string]func(v *blocks.Vol, d *disk.Disk, more string) any{
		"Write":   func(v *blocks.Vol, _ *disk.Disk, more string) any { return v.Write(1, more[640:704]) },
		"Commit":  func(v *blocks.Vol, _ *disk.Disk, more string) any { return v.Commit(more[640:680]) },
		"refused": func(v *blocks.Vol, _ *disk.Disk, more string) any { v.Commit(more); return v.Write(1, more) },
		"Format": func(_ *blocks.Vol, d *disk.Disk, more string) any {
			k, _ := blocks.Format(d, more[640:680])
			return k
		},
		"Unframe": func(_ *blocks.Vol, _ *disk.Disk, more string) any {
			s, _ := blocks.Unframe((carrying("x") + more)[:256])
			return s
		},
	} {
		var things []any
		for range 40 {
			v, d := formatted(t, 32, "root")
			things = append(things, v, d)
		}
		ahead := taken()
		for n := range 40 {
			v, d := things[2*n].(*blocks.Vol), things[2*n+1].(*disk.Disk)
			things = append(things, do(v, d, strings.Repeat(string(rune('a'+n)), 1<<20)))
		}
		if now := taken(); now > ahead+10<<20 {
			t.Errorf("%s: %d bytes more", name, now-ahead)
		}
		runtime.KeepAlive(things)
	}
}

// TestManyBlocks: the greatest volume, all of it, by Writes and by Reads.
func TestManyBlocks(t *testing.T) {
	v, d := formatted(t, 16384, "root")
	if v.Blocks() != 4096 {
		t.Fatal(v.Blocks())
	}
	for vbn := 1; vbn < 4096; vbn++ {
		fine(t, v.Write(vbn, text(vbn%241, vbn)))
	}
	fine(t, v.Commit("all"))
	for _, k := range []*blocks.Vol{v, opened(t, d)} {
		for vbn := 1; vbn < 4096; vbn++ {
			if s, e := k.Read(vbn); s != text(vbn%241, vbn) || e != api.OK {
				t.Fatalf("%d: %q, %d", vbn, s, e)
			}
		}
	}
}
