package nvlog_test

import (
	"encoding/binary"
	"fmt"
	"math"
	"math/rand"
	"runtime"
	"slices"
	"strings"
	"testing"

	"stillage/api"
	"stillage/disk"
	"stillage/nvlog"
)

const (
	maxGen = 1 << 40
	long   = 1300 // bytes of the longest record
)

// noughts are so many bytes 0.
func noughts(n int) string { return strings.Repeat("\x00", n) }

// full is a sector's bytes, all of them one.
func full(c byte) string { return strings.Repeat(string([]byte{c}), 64) }

// text is a record of so many bytes, which tell of their places.
func text(n, seed int) string {
	b := make([]byte, n)
	for i := range b {
		b[i] = byte(seed*31 + i*7 + i/256)
	}
	return string(b)
}

// fine fails if one of some calls was not answered OK.
func fine(t testing.TB, answers ...api.Errno) {
	t.Helper()
	for i, e := range answers {
		if e != api.OK {
			t.Fatalf("call %d: %d", i, e)
		}
	}
}

// blank is a disk of noughts.
func blank(t testing.TB, sectors int) *disk.Disk {
	t.Helper()
	d, e := disk.New(sectors)
	fine(t, e)
	return d
}

// scratched is a disk on which something stands everywhere.
func scratched(t testing.TB, sectors int) *disk.Disk {
	t.Helper()
	var b strings.Builder
	for n := range sectors {
		b.WriteString(text(64, n+1))
	}
	d, e := disk.Open(b.String())
	fine(t, e)
	return d
}

// formatted is an empty log of a number, and its disk.
func formatted(t testing.TB, sectors, gen int) (*nvlog.Log, *disk.Disk) {
	t.Helper()
	d := scratched(t, sectors)
	l, e := nvlog.Format(d, gen)
	if l == nil || e != api.OK {
		t.Fatalf("Format(%d): %d", gen, e)
	}
	return l, d
}

// opened is the log of a disk.
func opened(t testing.TB, d *disk.Disk) *nvlog.Log {
	t.Helper()
	l, e := nvlog.Open(d)
	if l == nil || e != api.OK {
		t.Fatalf("Open: %d", e)
	}
	return l
}

// laid is a disk of this many sectors, with a sector 0 and the half of GEN modulo 2 given; something stands elsewhere.
func laid(t testing.TB, sectors int, zero string, gen int, half string) *disk.Disk {
	t.Helper()
	d := scratched(t, sectors)
	b := []byte(d.Image())
	copy(b, zero)
	copy(b[64*(1+gen%2*((sectors-1)/2)):], half)
	d, e := disk.Open(string(b))
	fine(t, e)
	return d
}

// zero is a sector 0, by the words of the document.
func zero(gen, used int) string {
	b := []byte("NV")
	b = binary.LittleEndian.AppendUint64(b, uint64(gen))[:8]
	b = binary.LittleEndian.AppendUint32(b, uint32(used))
	return string(b) + noughts(52)
}

// bytesOf are records' bytes, one behind the other, by the words of the document.
func bytesOf(records ...string) string {
	var b []byte
	for _, r := range records {
		b = binary.LittleEndian.AppendUint16(b, uint16(len(r)))
		b = append(b, r...)
	}
	return string(b)
}

// model is a log by the words of the document, over a disk of its own.
type model struct {
	d       *disk.Disk
	gen     int
	records []string
	dead    bool
}

// size is how many sectors a half has.
func size(d *disk.Disk) int { return (d.Sectors() - 1) / 2 }

func (m *model) room() int { return 64*size(m.d) - len(bytesOf(m.records...)) }

// zero writes sector 0, and syncs.
func (m *model) zero(gen, used int) api.Errno {
	if e := m.d.Write(0, zero(gen, used)); e != api.OK {
		return e
	}
	return m.d.Sync()
}

// modelFormat is what Format does.
func modelFormat(d *disk.Disk, gen int) (*model, api.Errno) {
	m := &model{d: d, gen: gen}
	if d.Sectors() < 5 || gen < 0 || gen > maxGen {
		return nil, api.ErrLogForm
	}
	if e := m.zero(gen, 0); e != api.OK {
		return nil, e
	}
	return m, api.OK
}

// modelOpen is what Open does.
func modelOpen(d *disk.Disk) (*model, api.Errno) {
	if d.Sectors() < 5 {
		return nil, api.ErrLogForm
	}
	s, e := d.Read(0)
	if e != api.OK {
		return nil, e
	}
	gen := int(binary.LittleEndian.Uint64([]byte(s[2:8] + "\x00\x00")))
	used := int(binary.LittleEndian.Uint32([]byte(s[8:12])))
	if s[:2] != "NV" || gen > maxGen || s[12:] != noughts(52) || used > 64*size(d) {
		return nil, api.ErrLogForm
	}
	var b strings.Builder
	for n := range (used + 63) / 64 {
		s, e := d.Read(1 + gen%2*size(d) + n)
		if e != api.OK {
			return nil, e
		}
		b.WriteString(s)
	}
	half := b.String()
	m := &model{d: d, gen: gen}
	for at := 0; at < used; {
		if at+2 > used {
			return nil, api.ErrLogForm
		}
		n := int(half[at]) + 256*int(half[at+1])
		if n > long || at+2+n > used {
			return nil, api.ErrLogForm
		}
		m.records = append(m.records, half[at+2:at+2+n])
		at += 2 + n
	}
	return m, api.OK
}

// told keeps what an error makes of the log.
func (m *model) told(e api.Errno) api.Errno {
	m.dead = m.dead || e == api.ErrDead
	return e
}

func (m *model) append(record string) api.Errno {
	switch {
	case len(record) > long:
		return api.ErrLogLong
	case m.dead:
		return api.ErrDead
	case m.room() < len(record)+2:
		return api.ErrLogFull
	}
	ahead := len(bytesOf(m.records...))
	half := bytesOf(append(slices.Clone(m.records), record)...)
	used := len(half)
	half += noughts(64)
	for n := ahead / 64; 64*n < used; n++ {
		if e := m.d.Write(1+m.gen%2*size(m.d)+n, half[64*n:64*n+64]); e != api.OK {
			return m.told(e)
		}
	}
	if e := m.d.Sync(); e != api.OK {
		return m.told(e)
	}
	if e := m.zero(m.gen, used); e != api.OK {
		return m.told(e)
	}
	m.records = append(slices.Clone(m.records), record)
	return api.OK
}

func (m *model) start(gen int) api.Errno {
	switch {
	case gen <= m.gen || gen > maxGen:
		return api.ErrLogForm
	case m.dead:
		return api.ErrDead
	}
	if e := m.zero(gen, 0); e != api.OK {
		return m.told(e)
	}
	m.gen, m.records = gen, nil
	return api.OK
}

// tells is what a log tells, in a line.
func tells(l *nvlog.Log) string {
	return fmt.Sprintf("gen %d, room %d, dead %t, records %q", l.Gen(), l.Room(), l.Dead(), l.Records())
}

func (m *model) tells() string {
	return fmt.Sprintf("gen %d, room %d, dead %t, records %q", m.gen, m.room(), m.dead, m.records)
}

// diskOther is in what a disk is another one than a second one; nothing if it is not.
func diskOther(d, want *disk.Disk) string {
	if d.Dead() != want.Dead() || d.Steps() != want.Steps() || d.Loose() != want.Loose() {
		return fmt.Sprintf("disk: dead %t, %d steps, %d loose, not %t, %d, %d", d.Dead(), d.Steps(), d.Loose(), want.Dead(), want.Steps(), want.Loose())
	}
	if d.Image() != want.Image() {
		return fmt.Sprintf("there stays %q, not %q", d.Image(), want.Image())
	}
	for n := range d.Sectors() {
		s, e := d.Read(n)
		if w, f := want.Read(n); s != w || e != f {
			return fmt.Sprintf("sector %d: %q, %d, not %q, %d", n, s, e, w, f)
		}
	}
	return ""
}

// other is in what a log and its disk are others than the model; nothing if they are not.
func other(l *nvlog.Log, d *disk.Disk, m *model) string {
	if a, b := tells(l), m.tells(); a != b {
		return a + "; not " + b
	}
	return diskOther(d, m.d)
}

// P7.1

func TestFormatOfWrongDisksAndNumbers(t *testing.T) {
	for _, sectors := range []int{1, 2, 3, 4} {
		d := scratched(t, sectors)
		ahead := d.Clone()
		for _, gen := range []int{0, 1, -1, maxGen + 1} {
			if l, e := nvlog.Format(d, gen); l != nil || e != api.ErrLogForm {
				t.Errorf("%d sectors, Format(%d): %t, %d", sectors, gen, l != nil, e)
			}
		}
		if s := diskOther(d, ahead); s != "" {
			t.Errorf("%d sectors: %s", sectors, s)
		}
	}
	d := scratched(t, 5)
	ahead := d.Clone()
	for _, gen := range []int{-1, -2, maxGen + 1, maxGen + 2, 1 << 41, 1<<48 - 1, 1 << 48, 1<<48 + 1, math.MinInt, math.MaxInt} {
		if l, e := nvlog.Format(d, gen); l != nil || e != api.ErrLogForm {
			t.Errorf("Format(%d): %t, %d", gen, l != nil, e)
		}
	}
	if s := diskOther(d, ahead); s != "" {
		t.Error(s)
	}
}

// TestFormat: sector 0 is written and stays; nothing else is written.
func TestFormat(t *testing.T) {
	for _, sectors := range []int{5, 6, 7, 8, 9, 64, 16383, 16384} {
		for _, gen := range []int{0, 1, 2, 255, 256, 1<<32 + 7, 0x123456789a, maxGen - 1, maxGen} {
			l, d := formatted(t, sectors, gen)
			if want := zero(gen, 0) + scratched(t, sectors).Image()[64:]; d.Image() != want {
				t.Fatalf("%d sectors, gen %d: there stays something else", sectors, gen)
			}
			if d.Steps() != 2 || d.Loose() != 0 {
				t.Errorf("%d sectors, gen %d: %d steps, %d loose", sectors, gen, d.Steps(), d.Loose())
			}
			want := fmt.Sprintf("gen %d, room %d, dead false, records []", gen, 64*((sectors-1)/2))
			if s := tells(l); s != want {
				t.Errorf("%d sectors: %s; not %s", sectors, s, want)
			}
			if s := tells(opened(t, d)); s != want {
				t.Errorf("%d sectors, opened: %s; not %s", sectors, s, want)
			}
		}
	}
}

// TestFormatTellsTheDisksError: and it is the form that is told ahead of it.
func TestFormatTellsTheDisksError(t *testing.T) {
	for name, x := range map[string]struct {
		sectors, gen int
		do           func(d *disk.Disk) api.Errno
		want         api.Errno
	}{
		"bad":             {5, 0, func(d *disk.Disk) api.Errno { return d.Bad(0, true) }, api.ErrIO},
		"no power":        {5, 0, func(d *disk.Disk) api.Errno { return d.Crash("") }, api.ErrDead},
		"in Write":        {5, 0, func(d *disk.Disk) api.Errno { return d.Arm(1, "\x01") }, api.ErrDead},
		"in Sync":         {5, 0, func(d *disk.Disk) api.Errno { return d.Arm(2, "\x01") }, api.ErrDead},
		"behind Sync":     {5, 0, func(d *disk.Disk) api.Errno { return d.Arm(3, "\x01") }, api.OK},
		"another is bad":  {5, 0, func(d *disk.Disk) api.Errno { return d.Bad(1, true) }, api.OK},
		"bad and few":     {4, 0, func(d *disk.Disk) api.Errno { return d.Bad(0, true) }, api.ErrLogForm},
		"dead and few":    {4, 0, func(d *disk.Disk) api.Errno { return d.Crash("") }, api.ErrLogForm},
		"dead and below":  {5, -1, func(d *disk.Disk) api.Errno { return d.Crash("") }, api.ErrLogForm},
		"bad and greater": {5, maxGen + 1, func(d *disk.Disk) api.Errno { return d.Bad(0, true) }, api.ErrLogForm},
	} {
		d := scratched(t, x.sectors)
		fine(t, x.do(d))
		mine := d.Clone()
		_, e := modelFormat(mine, x.gen)
		if e != x.want {
			t.Fatalf("%s: the model answers %d", name, e)
		}
		if l, e := nvlog.Format(d, x.gen); (l != nil) != (x.want == api.OK) || e != x.want {
			t.Errorf("%s: %t, %d", name, l != nil, e)
		}
		if s := diskOther(d, mine); s != "" {
			t.Errorf("%s: %s", name, s)
		}
	}
}

// opens opens a disk, and holds what is answered against what the model and the caller say.
func opens(t *testing.T, name string, d *disk.Disk, want api.Errno) {
	t.Helper()
	mine := d.Clone()
	l, e := nvlog.Open(d)
	m, f := modelOpen(mine)
	if f != want {
		t.Fatalf("%s: the model answers %d", name, f)
	}
	if (l != nil) != (want == api.OK) || e != want {
		t.Fatalf("%s: %t, %d, not %d", name, l != nil, e, want)
	}
	if want != api.OK {
		if s := diskOther(d, mine); s != "" {
			t.Errorf("%s: %s", name, s)
		}
		return
	}
	if s := other(l, d, m); s != "" {
		t.Errorf("%s: %s", name, s)
	}
}

func TestOpenOfFewSectors(t *testing.T) {
	for _, sectors := range []int{1, 2, 3, 4} {
		opens(t, fmt.Sprint(sectors), laid(t, sectors, zero(0, 0), 0, ""), api.ErrLogForm)
		d := laid(t, sectors, zero(0, 0), 0, "")
		fine(t, d.Bad(0, true))
		opens(t, fmt.Sprint(sectors, " bad"), d, api.ErrLogForm)
		fine(t, d.Crash(""))
		opens(t, fmt.Sprint(sectors, " dead"), d, api.ErrLogForm)
	}
	opens(t, "5", laid(t, 5, zero(0, 0), 0, ""), api.OK)
}

func TestOpenOfSectorZero(t *testing.T) {
	good := zero(4, 9)
	half := bytesOf("one", "ab")
	for _, x := range []struct {
		name, zero string
		want       api.Errno
	}{
		{"good", good, api.OK},
		{"noughts", noughts(64), api.ErrLogForm},
		{"another letter", "MV" + good[2:], api.ErrLogForm},
		{"another second letter", "NW" + good[2:], api.ErrLogForm},
		{"small letters", "nv" + good[2:], api.ErrLogForm},
		{"a byte behind USED", good[:12] + "\x01" + noughts(51), api.ErrLogForm},
		{"a byte at the end", good[:63] + "\x01", api.ErrLogForm},
		{"a byte amid noughts", good[:40] + "\x80" + noughts(23), api.ErrLogForm},
		{"GEN 2^40", zero(maxGen, 9), api.OK},
		{"GEN 2^40 - 2", zero(maxGen-2, 9), api.OK},
		{"GEN 2^40 + 2", zero(maxGen+2, 9), api.ErrLogForm},
		{"GEN 2^40 + 1", zero(maxGen+1, 9), api.ErrLogForm},
		{"GEN 2^48 - 2", zero(1<<48-2, 9), api.ErrLogForm},
		{"GEN 2^47", zero(1<<47, 9), api.ErrLogForm},
		{"USED 0", zero(4, 0), api.OK},
		{"USED 5", zero(4, 5), api.OK},
		{"USED amid a record", zero(4, 7), api.ErrLogForm},
		{"USED 2^32 - 1", zero(4, 1<<32-1), api.ErrLogForm},
		{"USED 2^31", zero(4, 1<<31), api.ErrLogForm},
		{"USED of another byte", zero(4, 9+1<<24), api.ErrLogForm},
	} {
		opens(t, x.name, laid(t, 5, x.zero, 4, half), x.want)
	}
}

// TestOpenOfTurnedBits: of a sector 0 each bit.
func TestOpenOfTurnedBits(t *testing.T) {
	for bit := range 512 {
		b := []byte(zero(maxGen-2, 9))
		b[bit/8] ^= 1 << (bit % 8)
		want := api.ErrLogForm
		// In what has one half, or another number: GEN below 2^40, and USED that ends with a record.
		if at := bit / 8; at >= 2 && at < 7 && bit != 16 {
			want = api.OK
		}
		d := laid(t, 9, string(b), 0, bytesOf("one", "ab"))
		opens(t, fmt.Sprint("bit ", bit), d, want)
	}
}

// TestOpenOfWholeHalves: USED may be as much as a half has, in all sizes, and no more.
func TestOpenOfWholeHalves(t *testing.T) {
	for _, sectors := range []int{5, 6, 7, 8, 41, 42, 43, 16383, 16384} {
		room := 64 * ((sectors - 1) / 2)
		for _, gen := range []int{6, 7} {
			var records []string
			left := room
			for i := 0; left > 0; i++ {
				n := min(left-2, long)
				if left-2-n == 1 {
					n--
				}
				records = append(records, text(n, i))
				left -= n + 2
			}
			half := bytesOf(records...)
			opens(t, fmt.Sprint(sectors, " whole"), laid(t, sectors, zero(gen, room), gen, half), api.OK)
			opens(t, fmt.Sprint(sectors, " more"), laid(t, sectors, zero(gen, room+1), gen, half), api.ErrLogForm)
			opens(t, fmt.Sprint(sectors, " less"), laid(t, sectors, zero(gen, room-1), gen, half), api.ErrLogForm)
		}
	}
	// More than a half is told ahead of a half that can't be read.
	d := laid(t, 5, zero(0, 129), 0, bytesOf(text(126, 0)))
	fine(t, d.Bad(1, true))
	opens(t, "more, bad", d, api.ErrLogForm)
}

func TestOpenOfRecords(t *testing.T) {
	for _, x := range []struct {
		name, half string
		want       api.Errno
	}{
		{"none", "", api.OK},
		{"an empty one", bytesOf(""), api.OK},
		{"empty ones", bytesOf("", "", ""), api.OK},
		{"one", bytesOf("a"), api.OK},
		{"of a byte 0", bytesOf("\x00", "\x00\x00"), api.OK},
		{"the longest", bytesOf(text(long, 1)), api.OK},
		{"the longest, others", bytesOf("a", text(long, 1), "", text(long-1, 2)), api.OK},
		{"a longer one", bytesOf(text(long+1, 1)), api.ErrLogForm},
		{"a longer one behind others", bytesOf("a", "", text(long+1, 1), "b"), api.ErrLogForm},
		{"one of 2^15 bytes", bytesOf("a") + "\x00\x80" + text(40, 1), api.ErrLogForm},
		{"one of 2^16 - 1 bytes", "\xff\xff" + text(40, 1), api.ErrLogForm},
		{"one of 1300 that has less", "\x14\x05" + text(1299, 1), api.ErrLogForm},
		{"half a length", "\x01", api.ErrLogForm},
		{"half a length of noughts", "\x00", api.ErrLogForm},
		{"half a length behind one", bytesOf("a") + "\x00", api.ErrLogForm},
		{"a length alone", bytesOf("a") + "\x01\x00", api.ErrLogForm},
		{"a byte is missing", bytesOf("abc", "defg")[:10], api.ErrLogForm},
		{"a byte too much", bytesOf("abc", "defg") + "h", api.ErrLogForm},
	} {
		for _, gen := range []int{0, 1, 12, 13} {
			name := fmt.Sprint(x.name, ", gen ", gen)
			opens(t, name, laid(t, 101, zero(gen, len(x.half)), gen, x.half), x.want)
			// What stands in the other half is nothing.
			opens(t, name+", other half", laid(t, 101, zero(gen, 0), gen+1, x.half), api.OK)
		}
	}
}

// TestOpenOfBadSectors: only those in which there are records are read, in order, ahead of what their bytes say.
func TestOpenOfBadSectors(t *testing.T) {
	for _, gen := range []int{2, 3} {
		for _, used := range []int{0, 2, 63, 64, 65, 127, 128, 129, 192, 193, 256} {
			for bad := range 10 {
				whole := bytesOf(text(max(used-2, 0), 1))[:used]
				for _, half := range []string{whole, strings.Repeat("\xff", used)} {
					d := laid(t, 10, zero(gen, used), gen, half)
					fine(t, d.Bad(bad, true))
					want := api.OK
					if half != whole {
						want = api.ErrLogForm
					}
					begin := 1 + gen%2*4
					if bad == 0 || bad >= begin && bad < begin+(used+63)/64 {
						want = api.ErrIO
					}
					opens(t, fmt.Sprint("gen ", gen, " used ", used, " bad ", bad), d, want)
				}
			}
		}
	}
	d := laid(t, 5, noughts(64), 0, "")
	fine(t, d.Bad(0, true))
	opens(t, "what is none is bad", d, api.ErrIO)
	fine(t, d.Crash(""))
	opens(t, "and there is no power", d, api.ErrDead)
	d.Revive()
	fine(t, d.Bad(0, false))
	opens(t, "what is none", d, api.ErrLogForm)
}

// TestOpenOfLooseSectors: what was written last is read, though it may not stay.
func TestOpenOfLooseSectors(t *testing.T) {
	d := blank(t, 5)
	half := bytesOf("loose", "ends")
	fine(t, d.Write(0, zero(1, len(half))), d.Write(3, half+noughts(64-len(half))))
	opens(t, "loose", d, api.OK)
	fine(t, d.Crash(""))
	d.Revive()
	opens(t, "gone", d, api.ErrLogForm)
}

// FuzzOpen opens whatever stands on a disk.
func FuzzOpen(f *testing.F) {
	f.Add(uint8(5), zero(0, 5)+bytesOf("abc"))
	f.Add(uint8(9), zero(3, 0)+full('a'))
	f.Add(uint8(30), zero(maxGen, 64)+bytesOf(text(20, 1), "", text(38, 2)))
	f.Add(uint8(0), "NV")
	f.Fuzz(func(t *testing.T, sectors uint8, image string) {
		d := scratched(t, 1+int(sectors)%60)
		b := []byte(d.Image())
		copy(b, image)
		d, _ = disk.Open(string(b))
		m, want := modelOpen(d.Clone())
		l, e := nvlog.Open(d)
		if e != want || (l == nil) != (m == nil) {
			t.Fatalf("%t, %d, not %d", l != nil, e, want)
		}
		if m != nil && tells(l) != m.tells() {
			t.Fatalf("%s; not %s", tells(l), m.tells())
		}
	})
}

// P7.2

func TestRecords(t *testing.T) {
	l, d := formatted(t, 41, 5)
	var want []string
	used := 0
	for i, n := range []int{0, 1, 2, 60, 61, 62, 63, 64, 65, 126, 127, 0, 0, 3, 300} {
		r := text(n, i)
		fine(t, l.Append(r))
		want = append(want, r)
		used += n + 2
		for _, k := range []*nvlog.Log{l, opened(t, d)} {
			if !slices.Equal(k.Records(), want) || k.Room() != 1280-used || k.Gen() != 5 || k.Dead() {
				t.Fatalf("behind %d: %s", i, tells(k))
			}
		}
	}
}

// TestRecordsApart: what is answered is new each time.
func TestRecordsApart(t *testing.T) {
	l, _ := formatted(t, 9, 0)
	fine(t, l.Append("a"), l.Append("b"))
	one := l.Records()
	one[0] = "x"
	_ = append(one[:1], "y", "z")
	fine(t, l.Append("c"))
	two := l.Records()
	if !slices.Equal(two, []string{"a", "b", "c"}) {
		t.Errorf("%q", two)
	}
	_ = append(two, "q")
	if !slices.Equal(l.Records(), []string{"a", "b", "c"}) || len(one) != 2 {
		t.Errorf("%q", l.Records())
	}
	fine(t, l.Start(1))
	if !slices.Equal(two, []string{"a", "b", "c"}) || len(l.Records()) != 0 {
		t.Errorf("%q, %q", two, l.Records())
	}
}

// P7.3

// TestAppend: what stays behind each call, and in how many steps.
func TestAppend(t *testing.T) {
	l, d := formatted(t, 8, 0) // halves of three sectors: 1 to 3, 4 to 6
	rest := scratched(t, 8).Image()
	steps := d.Steps()
	holds := func(used int, half string, more int) {
		t.Helper()
		half += noughts((64 - len(half)%64) % 64)
		want := zero(0, used) + half + rest[64+len(half):]
		if d.Image() != want {
			t.Fatalf("there stays %q, not %q", d.Image(), want)
		}
		if steps += more; d.Steps() != steps || d.Loose() != 0 {
			t.Fatalf("%d steps, not %d; %d loose", d.Steps(), steps, d.Loose())
		}
	}
	fine(t, l.Append("abc"))
	holds(5, "\x03\x00abc", 4)
	fine(t, l.Append(""))
	holds(7, "\x03\x00abc\x00\x00", 4)
	fine(t, l.Append(text(55, 1)))
	holds(64, "\x03\x00abc\x00\x00\x37\x00"+text(55, 1), 4)
	fine(t, l.Append(text(63, 2)))
	holds(129, "\x03\x00abc\x00\x00\x37\x00"+text(55, 1)+"\x3f\x00"+text(63, 2), 5)
	fine(t, l.Append(text(61, 3)))
	holds(192, "\x03\x00abc\x00\x00\x37\x00"+text(55, 1)+"\x3f\x00"+text(63, 2)+"\x3d\x00"+text(61, 3), 4)
	if e := l.Append(""); e != api.ErrLogFull {
		t.Errorf("%d", e)
	}
	holds(192, "\x03\x00abc\x00\x00\x37\x00"+text(55, 1)+"\x3f\x00"+text(63, 2)+"\x3d\x00"+text(61, 3), 0)
}

// TestAppendInTheOtherHalf: it begins behind the first one, and reaches to a disk's end, or to the sector ahead of it.
func TestAppendInTheOtherHalf(t *testing.T) {
	for _, sectors := range []int{5, 6, 7, 8} {
		l, d := formatted(t, sectors, 1)
		half := (sectors - 1) / 2
		rest := scratched(t, sectors).Image()
		record := text(64*half-2, 4)
		fine(t, l.Append(record))
		want := zero(1, 64*half) + rest[64:64*(1+half)] + bytesOf(record) + rest[64*(1+2*half):]
		if d.Image() != want {
			t.Errorf("%d sectors: %q, not %q", sectors, d.Image(), want)
		}
	}
}

func TestAppendOfLengths(t *testing.T) {
	for _, n := range []int{0, 1, 62, 63, 255, 256, 1024, long - 1, long} {
		l, d := formatted(t, 101, 0)
		fine(t, l.Append(text(n, 1)))
		if l.Room() != 3200-n-2 || !slices.Equal(l.Records(), []string{text(n, 1)}) || tells(opened(t, d)) != tells(l) {
			t.Errorf("%d: %s", n, tells(l))
		}
	}
	l, d := formatted(t, 101, 0)
	ahead := d.Clone()
	for _, n := range []int{long + 1, long + 2, 3198, 3199, 65535, 65536, 65537, 65536 + 5, 1 << 20} {
		if e := l.Append(text(n, 1)); e != api.ErrLogLong {
			t.Errorf("%d: %d", n, e)
		}
	}
	if s := diskOther(d, ahead); s != "" || l.Room() != 3200 || len(l.Records()) != 0 {
		t.Error(s, tells(l))
	}
}

// TestAppendOfAFullLog: a record and its length must have room.
func TestAppendOfAFullLog(t *testing.T) {
	for first := range 127 {
		l, d := formatted(t, 5, 0)
		fine(t, l.Append(text(first, 1)))
		room := 128 - first - 2
		ahead := d.Clone()
		for n := max(0, room-1); n < room+3; n++ {
			if e := l.Append(text(n, 2)); e != api.ErrLogFull {
				t.Fatalf("room %d: Append of %d: %d", room, n, e)
			}
		}
		if s := diskOther(d, ahead); s != "" || l.Room() != room || l.Dead() {
			t.Fatal(s, tells(l))
		}
		if room >= 2 {
			fine(t, l.Append(text(room-2, 2)))
			if l.Room() != 0 || tells(opened(t, d)) != tells(l) {
				t.Fatal(tells(l))
			}
		}
	}
}

func TestStart(t *testing.T) {
	l, d := formatted(t, 7, 4)
	fine(t, l.Append("old"))
	image := d.Image()
	ahead := d.Clone()
	for _, gen := range []int{4, 3, 0, -1, maxGen + 1, maxGen + 2, 1 << 48, math.MinInt, math.MaxInt} {
		if e := l.Start(gen); e != api.ErrLogForm {
			t.Errorf("Start(%d): %d", gen, e)
		}
	}
	if s := diskOther(d, ahead); s != "" || tells(l) != `gen 4, room 187, dead false, records ["old"]` {
		t.Error(s, tells(l))
	}
	for _, gen := range []int{5, 6, 8, 9, 1 << 39, maxGen - 1, maxGen} {
		steps := d.Steps()
		fine(t, l.Start(gen))
		if d.Image() != zero(gen, 0)+image[64:] || d.Steps() != steps+2 || d.Loose() != 0 {
			t.Fatalf("Start(%d): %q", gen, d.Image())
		}
		want := fmt.Sprintf("gen %d, room 192, dead false, records []", gen)
		if tells(l) != want || tells(opened(t, d)) != want {
			t.Errorf("Start(%d): %s", gen, tells(l))
		}
		record := text(100, gen%50)
		fine(t, l.Append(record))
		begin := 64 * (1 + gen%2*3)
		image = image[:begin] + bytesOf(record) + noughts(26) + image[begin+128:]
		if d.Image() != zero(gen, 102)+image[64:] {
			t.Errorf("Append behind Start(%d): %q", gen, d.Image())
		}
	}
	for _, gen := range []int{maxGen, maxGen + 1} {
		if e := l.Start(gen); e != api.ErrLogForm {
			t.Errorf("Start(%d) behind the last one: %d", gen, e)
		}
	}
}

// TestBadSectors: the disk's first error ends a call, and the log is what it was.
func TestBadSectors(t *testing.T) {
	for _, gen := range []int{0, 1} {
		for bad := range 9 {
			for _, n := range []int{0, 20, 60, 61, 62, 100, 125, 200, 214, 215} {
				l, d := formatted(t, 9, gen)
				fine(t, l.Append(text(38, 1)))
				m, e := modelOpen(d.Clone())
				fine(t, e, d.Bad(bad, true), m.d.Bad(bad, true))
				for range 2 {
					if e, want := l.Append(text(n, 2)), m.append(text(n, 2)); e != want {
						t.Fatalf("gen %d, bad %d, Append of %d: %d, not %d", gen, bad, n, e, want)
					}
					if s := other(l, d, m); s != "" {
						t.Fatalf("gen %d, bad %d, Append of %d: %s", gen, bad, n, s)
					}
				}
				if e, want := l.Start(gen+3), m.start(gen+3); e != want {
					t.Fatalf("gen %d, bad %d, Start: %d, not %d", gen, bad, e, want)
				}
				if s := other(l, d, m); s != "" {
					t.Fatalf("gen %d, bad %d, Start: %s", gen, bad, s)
				}
				fine(t, d.Bad(bad, false), m.d.Bad(bad, false), l.Append("good"), m.append("good"))
				if s := other(l, d, m); s != "" {
					t.Fatalf("gen %d, %d is good again: %s", gen, bad, s)
				}
				if tells(opened(t, d)) != tells(l) {
					t.Fatalf("gen %d, bad %d: opened: %s; not %s", gen, bad, tells(opened(t, d)), tells(l))
				}
			}
		}
	}
}

// TestErrorsInOrder: those of a record and of a number come ahead of a dead log, which comes ahead of a full one.
func TestErrorsInOrder(t *testing.T) {
	l, d := formatted(t, 5, 3)
	fine(t, l.Append(text(100, 1)), d.Crash(""))
	// The power is gone, which the log doesn't know yet.
	if e := l.Append(text(25, 1)); e != api.ErrLogFull {
		t.Errorf("full: %d", e)
	}
	if e := l.Append(text(long+1, 1)); e != api.ErrLogLong {
		t.Errorf("long: %d", e)
	}
	if e := l.Start(3); e != api.ErrLogForm {
		t.Errorf("form: %d", e)
	}
	if l.Dead() {
		t.Error("dead")
	}
	if e := l.Append(text(24, 1)); e != api.ErrDead || !l.Dead() {
		t.Errorf("dead: %d", e)
	}
	if e := l.Append(text(25, 1)); e != api.ErrDead {
		t.Errorf("dead and full: %d", e)
	}
	if e := l.Append(text(long+1, 1)); e != api.ErrLogLong {
		t.Errorf("dead and long: %d", e)
	}
	for _, gen := range []int{3, -1, maxGen + 1} {
		if e := l.Start(gen); e != api.ErrLogForm {
			t.Errorf("dead, Start(%d): %d", gen, e)
		}
	}
	if e := l.Start(4); e != api.ErrDead {
		t.Errorf("dead: %d", e)
	}
}

// P7.4

// TestDeadForGood: also behind Revive; what it tells is what it was.
func TestDeadForGood(t *testing.T) {
	add := func(l *nvlog.Log) api.Errno { return l.Append("more") }
	start := func(l *nvlog.Log) api.Errno { return l.Start(7) }
	for _, x := range []struct {
		name string
		do   func(l *nvlog.Log) api.Errno
		step int // in which the power goes; 0: ahead of the call
	}{
		{"Append", add, 0}, {"Append", add, 1}, {"Append", add, 2}, {"Append", add, 3}, {"Append", add, 4},
		{"Start", start, 0}, {"Start", start, 1}, {"Start", start, 2},
	} {
		for _, keep := range []string{"", "\xff"} {
			l, d := formatted(t, 9, 2)
			fine(t, l.Append("some"))
			if x.step == 0 {
				fine(t, d.Crash(keep))
			} else {
				fine(t, d.Arm(x.step, keep))
			}
			if l.Dead() {
				t.Errorf("%s, step %d: it is dead ahead of the call", x.name, x.step)
			}
			if e := x.do(l); e != api.ErrDead {
				t.Errorf("%s, step %d: %d", x.name, x.step, e)
			}
			staysDead(t, fmt.Sprintf("%s, step %d, keep %q", x.name, x.step, keep), l, d)
		}
	}
}

// staysDead revives a disk, the log of which tells what it did ahead of the call in which the power went.
func staysDead(t *testing.T, name string, l *nvlog.Log, d *disk.Disk) {
	t.Helper()
	const want = `gen 2, room 250, dead true, records ["some"]`
	if tells(l) != want {
		t.Errorf("%s: %s", name, tells(l))
	}
	d.Revive()
	ahead := d.Clone()
	if e := l.Append("x"); e != api.ErrDead {
		t.Errorf("%s: Append behind Revive: %d", name, e)
	}
	if e := l.Start(8); e != api.ErrDead {
		t.Errorf("%s: Start behind Revive: %d", name, e)
	}
	if s := diskOther(d, ahead); s != "" || tells(l) != want {
		t.Errorf("%s: behind Revive: %s, %s", name, tells(l), s)
	}
	if k := opened(t, d); k.Dead() || k.Append("x") != api.OK {
		t.Errorf("%s: opened: %s", name, tells(k))
	}
}

// TestNotDead: of other errors, and of a power that went and came back between calls.
func TestNotDead(t *testing.T) {
	l, d := formatted(t, 5, 0)
	fine(t, d.Bad(0, true))
	if e := l.Append("a"); e != api.ErrIO || l.Dead() {
		t.Errorf("%d, dead: %t", e, l.Dead())
	}
	if e := l.Start(1); e != api.ErrIO || l.Dead() {
		t.Errorf("%d, dead: %t", e, l.Dead())
	}
	fine(t, d.Bad(0, false), d.Crash(""))
	if l.Dead() {
		t.Error("dead of a crash")
	}
	d.Revive()
	fine(t, l.Append("a"), l.Start(1), l.Append("b"))
	if l.Append(text(long+1, 0)) != api.ErrLogLong || l.Append(text(long, 0)) != api.ErrLogFull || l.Start(1) != api.ErrLogForm || l.Dead() {
		t.Error(tells(l))
	}
}

func TestClone(t *testing.T) {
	l, d := formatted(t, 9, 2)
	fine(t, l.Append(text(30, 1)), l.Append("b"))
	c := d.Clone()
	k := l.Clone(c)
	if tells(k) != tells(l) {
		t.Errorf("%s; not %s", tells(k), tells(l))
	}
	// Both go on, over the same places of the half.
	fine(t, l.Append("of the first"), k.Append("of the second one"), l.Append("x"), k.Append("y"))
	for _, x := range []struct {
		l    *nvlog.Log
		d    *disk.Disk
		want []string
	}{
		{l, d, []string{text(30, 1), "b", "of the first", "x"}},
		{k, c, []string{text(30, 1), "b", "of the second one", "y"}},
	} {
		if !slices.Equal(x.l.Records(), x.want) || tells(opened(t, x.d)) != tells(x.l) {
			t.Errorf("%q, not %q", x.l.Records(), x.want)
		}
	}
	fine(t, k.Start(3))
	if l.Gen() != 2 || len(l.Records()) != 4 || k.Gen() != 3 || len(k.Records()) != 0 {
		t.Errorf("%s; %s", tells(l), tells(k))
	}
	fine(t, d.Crash(""))
	if e := l.Append("z"); e != api.ErrDead {
		t.Error(e)
	}
	if !l.Dead() || k.Dead() || k.Append("z") != api.OK {
		t.Error("the clone is dead, too")
	}
	again := d.Clone()
	again.Revive()
	if a := l.Clone(again); !a.Dead() || a.Append("z") != api.ErrDead || a.Start(9) != api.ErrDead || tells(a) != tells(l) {
		t.Error("a dead one's clone")
	}
}

// Rows of calls.

// call is one on a log, or on its disk.
type call struct {
	kind, n int
	s       string // what is added, or kept
}

// Kinds of calls.
const (
	callAppend = iota
	callStart
	callOpen
	callFormat
	callBad
	callGood
	callArm
	callCrash
	callRevive
	callKinds
)

func (x call) String() string {
	name := [...]string{"Append", "Start", "Open", "Format", "Bad", "Good", "Arm", "Crash", "Revive"}[x.kind]
	return fmt.Sprintf("%s(%d, %d bytes)", name, x.n, len(x.s))
}

// pair is a log and what the model says of it, each on a disk of its own.
type pair struct {
	l *nvlog.Log
	d *disk.Disk
	m *model
}

func newPair(t testing.TB, sectors, gen int) *pair {
	l, d := formatted(t, sectors, gen)
	m, e := modelFormat(scratched(t, sectors), gen)
	fine(t, e)
	return &pair{l, d, m}
}

func (p *pair) clone() *pair {
	m := *p.m
	d := p.d.Clone()
	m.d, m.records = p.m.d.Clone(), slices.Clone(p.m.records)
	return &pair{p.l.Clone(d), d, &m}
}

// on makes a call on both, and tells both answers. What can't be opened or formatted leaves the log that was there.
func (p *pair) on(x call) (e, want api.Errno) {
	switch x.kind {
	case callAppend:
		return p.l.Append(x.s), p.m.append(x.s)
	case callStart:
		return p.l.Start(x.n), p.m.start(x.n)
	case callOpen, callFormat:
		var l *nvlog.Log
		var m *model
		if x.kind == callOpen {
			l, e = nvlog.Open(p.d)
			m, want = modelOpen(p.m.d)
		} else {
			l, e = nvlog.Format(p.d, x.n)
			m, want = modelFormat(p.m.d, x.n)
		}
		if e == api.OK && want == api.OK {
			p.l, p.m = l, m
		}
		return e, want
	}
	return onDisk(p.d, x), onDisk(p.m.d, x)
}

// onDisk makes one of a disk's calls.
func onDisk(d *disk.Disk, x call) api.Errno {
	switch x.kind {
	case callBad, callGood:
		return d.Bad(x.n, x.kind == callBad)
	case callArm:
		return d.Arm(x.n, x.s)
	case callCrash:
		return d.Crash(x.s)
	}
	d.Revive()
	return api.OK
}

// hold makes calls on both.
func (p *pair) hold(t *testing.T, calls []call) {
	t.Helper()
	for i, x := range calls {
		if e, want := p.on(x); e != want {
			t.Fatalf("%v: the last one answers %d, not %d", calls[:i+1], e, want)
		}
		if s := other(p.l, p.d, p.m); s != "" {
			t.Fatalf("behind %v: %s", calls[:i+1], s)
		}
	}
}

// smallCalls are some on a log of halves of two sectors.
func smallCalls(depth int) []call {
	return []call{
		{callAppend, 0, ""},
		{callAppend, 0, text(50, depth)},
		{callAppend, 0, text(90, depth)},
		{callStart, 2*depth + 3, ""},
		{callStart, 2*depth + 4, ""},
		{callOpen, 0, ""},
		{callBad, 2, ""},
		{callBad, 0, ""},
		{callGood, 0, ""},
		{callArm, 2, "\x02"},
		{callArm, 3, "\x01"},
		{callCrash, 0, "\xff"},
		{callRevive, 0, ""},
	}
}

// TestShortRows: each row of four calls, by clones.
func TestShortRows(t *testing.T) {
	var goOn func(p *pair, ahead []call)
	goOn = func(p *pair, ahead []call) {
		if s := other(p.l, p.d, p.m); s != "" {
			t.Fatalf("behind %v: %s", ahead, s)
		}
		if len(ahead) == 4 {
			return
		}
		for _, x := range smallCalls(len(ahead)) {
			c := p.clone()
			row := append(slices.Clone(ahead), x)
			if e, want := c.on(x); e != want {
				t.Fatalf("%v: the last one answers %d, not %d", row, e, want)
			}
			goOn(c, row)
		}
		if s := other(p.l, p.d, p.m); s != "" {
			t.Fatalf("behind %v, and what became of its clones: %s", ahead, s)
		}
	}
	goOn(newPair(t, 5, 1), nil)
}

// some is a call by chance on a log of so many sectors.
func some(chance *rand.Rand, sectors, gen int) call {
	keep := make([]byte, 1+chance.Intn(4))
	chance.Read(keep)
	n := chance.Intn(sectors)
	switch roll := chance.Intn(100); {
	case roll < 50:
		return call{callAppend, 0, text([]int{chance.Intn(20), chance.Intn(150), chance.Intn(1400)}[chance.Intn(3)], chance.Intn(99))}
	case roll < 60:
		return call{callStart, gen + chance.Intn(5) - 1, ""}
	case roll < 68:
		return call{callOpen, 0, ""}
	case roll < 70:
		return call{callFormat, chance.Intn(10), ""}
	case roll < 73:
		return call{callBad, n, ""}
	case roll < 80:
		return call{callGood, n, ""}
	case roll < 86:
		return call{callArm, chance.Intn(12), string(keep)}
	case roll < 88:
		return call{callCrash, 0, string(keep)}
	}
	return call{callRevive, 0, ""}
}

// TestLongRows: long rows of calls on greater disks, which now and then are their clones.
func TestLongRows(t *testing.T) {
	chance := rand.New(rand.NewSource(7))
	for range 150 {
		sectors := 5 + chance.Intn(90)
		p := newPair(t, sectors, chance.Intn(4))
		for range 40 {
			p.hold(t, []call{some(chance, sectors, p.l.Gen())})
			if chance.Intn(10) == 0 {
				c := p.clone()
				p.l.Append("gone")
				p.l.Start(p.l.Gen() + 1)
				p = c
			}
		}
	}
}

// FuzzCalls makes whatever calls bytes say, three bytes each.
func FuzzCalls(f *testing.F) {
	f.Add(uint8(5), "\x00\x00a\x00\x30b\x01\x05\x00\x00\x20c\x02\x00\x00")
	f.Add(uint8(9), "\x06\x03\x01\x00\x70a\x08\x00\x00\x02\x00\x00\x03\x02\x00\x00\x40x")
	f.Fuzz(func(t *testing.T, sectors uint8, s string) {
		count := 5 + int(sectors)%60
		var calls []call
		for i := 0; i+2 < min(len(s), 300); i += 3 {
			x := call{int(s[i]) % callKinds, int(int8(s[i+1])), s[i+2 : i+3]}
			switch x.kind {
			case callAppend:
				x.s = text(int(s[i+1])+int(s[i+2])%8*180, int(s[i]))
			case callBad, callGood:
				x.n = int(s[i+1]) % count
			}
			calls = append(calls, x)
		}
		newPair(t, count, 3).hold(t, calls)
	})
}

// P7.5

// state is what a log's disk tells when it is opened: its number, and its records.
func state(gen int, records []string) string { return fmt.Sprintf("%d %q", gen, records) }

// TestCrashByCrash: wherever the power goes, and whatever is kept then: the log behind the last call that was answered OK, or behind the one in which it went.
func TestCrashByCrash(t *testing.T) {
	chance := rand.New(rand.NewSource(75))
	rows := [][]call{
		{{callAppend, 0, text(3, 1)}, {callAppend, 0, text(100, 2)}, {callAppend, 0, text(150, 3)}, {callStart, 1, ""}, {callAppend, 0, text(200, 4)}},
		// The half in which there are records is begun anew.
		{{callAppend, 0, text(70, 1)}, {callAppend, 0, text(70, 2)}, {callStart, 2, ""}, {callAppend, 0, text(90, 3)}, {callStart, 4, ""}, {callAppend, 0, text(9, 4)}},
		{{callStart, 1, ""}, {callStart, 2, ""}, {callAppend, 0, ""}, {callAppend, 0, ""}, {callFormat, 0, ""}, {callAppend, 0, text(62, 1)}, {callAppend, 0, text(63, 1)}},
	}
	for range 8 {
		var row []call
		gen := 0
		for k := range 8 {
			if chance.Intn(3) == 0 {
				gen += 1 + chance.Intn(3)
				row = append(row, call{callStart, gen, ""})
			} else {
				row = append(row, call{callAppend, 0, text(chance.Intn(190), k)})
			}
		}
		rows = append(rows, row)
	}
	for _, row := range rows {
		for step := 1; crashIn(t, row, step); step++ {
		}
	}
}

// crashIn lets the power go in a step of a row, with each set that makes a difference; false, if the row has fewer.
func crashIn(t *testing.T, row []call, step int) bool {
	t.Helper()
	for keep := range 1 << 4 { // a call has at most four loose sectors
		l, d := formatted(t, 9, 0)
		fine(t, d.Arm(step, string([]byte{byte(keep)})))
		before, behind := state(0, nil), ""
		for _, x := range row {
			records, e := l.Records(), api.OK
			switch x.kind {
			case callAppend:
				behind = state(l.Gen(), append(records, x.s))
				e = l.Append(x.s)
			case callStart:
				behind = state(x.n, nil)
				e = l.Start(x.n)
			case callFormat:
				behind = state(x.n, nil)
				if k, f := nvlog.Format(d, x.n); f == api.OK {
					l = k
				} else {
					e = f
				}
			}
			if e == api.OK {
				before = behind
			}
			if e == api.ErrDead {
				break
			}
		}
		if !d.Dead() {
			return false
		}
		d.Revive()
		k := opened(t, d)
		if s := state(k.Gen(), k.Records()); s != before && s != behind {
			t.Fatalf("%v: the power goes in step %d, keep %b: %s, not %s or %s", row, step, keep, s, before, behind)
		}
		fine(t, k.Start(k.Gen()+1), k.Append("on"))
		if k := opened(t, d); !slices.Equal(k.Records(), []string{"on"}) {
			t.Fatalf("%v: behind step %d, keep %b it does not go on: %s", row, step, keep, tells(k))
		}
	}
	return true
}

// The examples.

func TestExamples(t *testing.T) {
	d := blank(t, 5)
	l, e := nvlog.Format(d, 0)
	fine(t, e)
	if l.Room() != 128 {
		t.Error(l.Room())
	}
	fine(t, l.Append("abc"))
	if l.Room() != 123 {
		t.Error(l.Room())
	}
	if e := l.Append(text(122, 1)); e != api.ErrLogFull {
		t.Error(e)
	}
	fine(t, l.Start(1))
	if l.Room() != 128 || len(l.Records()) != 0 {
		t.Error(tells(l))
	}
}

// What is kept, and how long it takes.

// taken is how much memory there is in use.
func taken() uint64 {
	var m runtime.MemStats
	runtime.GC()
	runtime.ReadMemStats(&m)
	return m.HeapAlloc
}

// TestKeepsLittle: not the texts of which a record is a part, and not the records ahead of a Start.
func TestKeepsLittle(t *testing.T) {
	for name, do := range map[string]func(l *nvlog.Log, more string){
		"added":   func(l *nvlog.Log, more string) { l.Append(more[640:704]) },
		"refused": func(l *nvlog.Log, more string) { l.Append(more); l.Append(more[:1300]) },
	} {
		var logs []*nvlog.Log
		for range 40 {
			l, _ := formatted(t, 9, 0)
			logs = append(logs, l)
		}
		ahead := taken()
		for n, l := range logs {
			do(l, strings.Repeat(string(rune('a'+n)), 1<<20))
		}
		if now := taken(); now > ahead+10<<20 {
			t.Errorf("%s: %d bytes more", name, now-ahead)
		}
		runtime.KeepAlive(logs)
	}
	ahead := taken()
	var logs []*nvlog.Log
	for range 10 {
		l, _ := formatted(t, 16384, 0)
		for i := range 400 {
			fine(t, l.Append(text(long, i)))
		}
		fine(t, l.Start(1))
		logs = append(logs, l)
	}
	if now := taken(); now > ahead+14<<20 {
		t.Errorf("started: %d bytes more", now-ahead)
	}
	runtime.KeepAlive(logs)
}

// TestManyRecords: the greatest log, full of the least records.
func TestManyRecords(t *testing.T) {
	d := blank(t, 16384)
	l, e := nvlog.Format(d, 0)
	fine(t, e)
	const all = 8191 * 32
	for i := range all {
		if e := l.Append(""); e != api.OK {
			t.Fatalf("%d: %d", i, e)
		}
	}
	if e := l.Append(""); e != api.ErrLogFull || l.Room() != 0 || len(l.Records()) != all || len(opened(t, d).Records()) != all {
		t.Errorf("%d, room %d, %d records", e, l.Room(), len(l.Records()))
	}
}
