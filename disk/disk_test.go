package disk_test

import (
	"fmt"
	"math"
	"math/rand"
	"runtime"
	"slices"
	"strings"
	"testing"

	"stillage/api"
	"stillage/disk"
)

const most = 16384 // sectors of the greatest disk

// full is a sector's bytes, all of them one.
func full(c byte) string { return strings.Repeat(string([]byte{c}), 64) }

// wide is a sector's bytes, each of which tells of the place in which it stands.
func wide(c byte) string {
	b := make([]byte, 64)
	for i := range b {
		b[i] = c + byte(3*i)
	}
	return string(b)
}

// noughts are the bytes of a disk on which nothing stands.
func noughts(sectors int) string { return strings.Repeat("\x00", 64*sectors) }

// made is a disk of noughts.
func made(t testing.TB, sectors int) *disk.Disk {
	t.Helper()
	d, e := disk.New(sectors)
	if d == nil || e != api.OK {
		t.Fatalf("New(%d): %d", sectors, e)
	}
	return d
}

// opened is a disk of these sectors.
func opened(t testing.TB, sectors ...string) *disk.Disk {
	t.Helper()
	d, e := disk.Open(strings.Join(sectors, ""))
	if d == nil || e != api.OK {
		t.Fatalf("Open of %d: %d", len(sectors), e)
	}
	return d
}

// fine fails if one of some calls was not answered OK.
func fine(t testing.TB, answers ...api.Errno) {
	t.Helper()
	for i, e := range answers {
		if e != api.OK {
			t.Fatalf("call %d: %d", i, e)
		}
	}
}

// has says by the words of the document whether a number is in a set.
func has(set string, n int) bool {
	return n/8 < len(set) && set[n/8]&[]byte{1, 2, 4, 8, 16, 32, 64, 128}[n%8] != 0
}

// model is a disk by the words of the document.
type model struct {
	stays, last []string // of each sector what stays, and what was written last
	loose       []int    // in the order in which each was first written
	bad         []bool
	steps       int
	armed       int
	keep        string
	dead        bool
}

func newModel(sectors ...string) *model {
	return &model{stays: slices.Clone(sectors), last: slices.Clone(sectors), bad: make([]bool, len(sectors))}
}

func (m *model) clone() *model {
	c := *m
	c.stays, c.last, c.loose, c.bad = slices.Clone(m.stays), slices.Clone(m.last), slices.Clone(m.loose), slices.Clone(m.bad)
	return &c
}

func (m *model) read(n int) (string, api.Errno) {
	switch {
	case m.dead:
		return "", api.ErrDead
	case n < 0 || n >= len(m.last):
		return "", api.ErrDiskAt
	case m.bad[n]:
		return "", api.ErrIO
	}
	return m.last[n], api.OK
}

// goes lets the power go.
func (m *model) goes(keep string) {
	for place, n := range m.loose {
		if has(keep, place) {
			m.stays[n] = m.last[n]
		}
	}
	m.last, m.loose = slices.Clone(m.stays), nil
	m.dead, m.armed = true, 0
}

// step tells whether the power goes in one.
func (m *model) step() bool {
	m.steps++
	m.armed--
	return m.armed == 0
}

func (m *model) write(n int, s string) api.Errno {
	switch {
	case m.dead:
		return api.ErrDead
	case n < 0 || n >= len(m.last):
		return api.ErrDiskAt
	case len(s) != 64:
		return api.ErrArg
	case m.bad[n]:
		return api.ErrIO
	}
	m.last[n] = s
	if !slices.Contains(m.loose, n) {
		m.loose = append(m.loose, n)
	}
	if m.step() {
		m.goes(m.keep)
		return api.ErrDead
	}
	return api.OK
}

func (m *model) sync() api.Errno {
	if m.dead {
		return api.ErrDead
	}
	if m.step() {
		m.goes(m.keep)
		return api.ErrDead
	}
	m.stays, m.loose = slices.Clone(m.last), nil
	return api.OK
}

// call is one that changes a disk.
type call struct {
	kind, n int
	s       string // what is written, or kept
}

// Kinds of calls.
const (
	callWrite = iota
	callSync
	callBad
	callGood
	callArm
	callCrash
	callRevive
	callKinds
)

func (x call) String() string {
	name := [...]string{"Write", "Sync", "Bad", "Good", "Arm", "Crash", "Revive"}[x.kind]
	s := x.s
	if len(s) > 4 {
		s = fmt.Sprintf("%s.. of %d", s[:4], len(s))
	}
	return fmt.Sprintf("%s(%d, %q)", name, x.n, s)
}

// on makes the call.
func (x call) on(d *disk.Disk) api.Errno {
	switch x.kind {
	case callWrite:
		return d.Write(x.n, x.s)
	case callSync:
		return d.Sync()
	case callBad, callGood:
		return d.Bad(x.n, x.kind == callBad)
	case callArm:
		return d.Arm(x.n, x.s)
	case callCrash:
		return d.Crash(x.s)
	}
	d.Revive()
	return api.OK
}

// told is what the model answers.
func (x call) told(m *model) api.Errno {
	switch x.kind {
	case callWrite:
		return m.write(x.n, x.s)
	case callSync:
		return m.sync()
	case callRevive:
		m.dead, m.armed = false, 0
		return api.OK
	}
	switch {
	case m.dead:
		return api.ErrDead
	case x.kind == callCrash:
		m.goes(x.s)
	case x.kind == callArm:
		if x.n < 0 {
			return api.ErrArg
		}
		m.armed, m.keep = x.n, x.s
	case x.n < 0 || x.n >= len(m.bad):
		return api.ErrDiskAt
	default:
		m.bad[x.n] = x.kind == callBad
	}
	return api.OK
}

// other is in what a disk tells something else than the model; nothing if it does not.
func other(d *disk.Disk, m *model) string {
	if n := d.Sectors(); n != len(m.last) {
		return fmt.Sprintf("it has %d sectors", n)
	}
	if dead := d.Dead(); dead != m.dead {
		return fmt.Sprintf("dead: %t", dead)
	}
	if n := d.Loose(); n != len(m.loose) {
		return fmt.Sprintf("%d are loose, not %d", n, len(m.loose))
	}
	if n := d.Steps(); n != m.steps {
		return fmt.Sprintf("%d steps, not %d", n, m.steps)
	}
	for n := -1; n <= len(m.last); n++ {
		s, e := d.Read(n)
		if want, wantErr := m.read(n); s != want || e != wantErr {
			return fmt.Sprintf("Read(%d): %q, %d, not %q, %d", n, s, e, want, wantErr)
		}
	}
	if s := d.Image(); s != strings.Join(m.stays, "") {
		return fmt.Sprintf("there stays %q, not %q", s, m.stays)
	}
	return ""
}

// hold makes calls on a disk and on the model, which are the same at first.
func hold(t *testing.T, d *disk.Disk, m *model, calls []call) {
	t.Helper()
	for i, x := range calls {
		e, want := x.on(d), x.told(m)
		if e != want {
			t.Fatalf("%v: the last one answers %d, not %d", calls[:i+1], e, want)
		}
		if s := other(d, m); s != "" {
			t.Fatalf("behind %v: %s", calls[:i+1], s)
		}
	}
}

// P6.1

func TestNew(t *testing.T) {
	for _, n := range []int{1, 2, 3, 5, 64, 4096, most - 1, most} {
		d := made(t, n)
		if d.Sectors() != n || d.Image() != noughts(n) {
			t.Errorf("New(%d): %d sectors, %d bytes", n, d.Sectors(), len(d.Image()))
		}
		if d.Loose() != 0 || d.Steps() != 0 || d.Dead() {
			t.Errorf("New(%d): %d are loose, %d steps, dead: %t", n, d.Loose(), d.Steps(), d.Dead())
		}
		for i := range n {
			if s, e := d.Read(i); s != noughts(1) || e != api.OK {
				t.Fatalf("New(%d): Read(%d): %q, %d", n, i, s, e)
			}
		}
	}
}

func TestNewOfWrongSizes(t *testing.T) {
	for _, n := range []int{0, -1, -64, most + 1, 1 << 20, 1 << 32, 1<<32 + 5, 1 << 58, math.MinInt, math.MaxInt} {
		if d, e := disk.New(n); d != nil || e != api.ErrDiskSize {
			t.Errorf("New(%d): %v, %d", n, d != nil, e)
		}
	}
}

func TestOpen(t *testing.T) {
	for _, n := range []int{1, 2, 3, 5, 300, most - 1, most} {
		var sectors []string
		for i := range n {
			sectors = append(sectors, wide(byte(i+i/256)))
		}
		d := opened(t, sectors...)
		if d.Sectors() != n || d.Image() != strings.Join(sectors, "") {
			t.Errorf("Open of %d: %d sectors, %d bytes", n, d.Sectors(), len(d.Image()))
		}
		if d.Loose() != 0 || d.Steps() != 0 || d.Dead() {
			t.Errorf("Open of %d: %d are loose, %d steps, dead: %t", n, d.Loose(), d.Steps(), d.Dead())
		}
		for i := range n {
			if s, e := d.Read(i); s != sectors[i] || e != api.OK {
				t.Fatalf("Open of %d: Read(%d): %q, %d", n, i, s, e)
			}
		}
	}
}

func TestOpenOfWrongSizes(t *testing.T) {
	for _, n := range []int{0, 1, 63, 65, 127, 129, 64*most - 1, 64*most + 1, 64*most + 63, 64*most + 64, 64*most + 128} {
		if d, e := disk.Open(strings.Repeat("x", n)); d != nil || e != api.ErrDiskSize {
			t.Errorf("Open of %d bytes: %v, %d", n, d != nil, e)
		}
	}
}

// TestNothingIsArmed: of a new disk, however many steps there are.
func TestNothingIsArmed(t *testing.T) {
	for _, d := range []*disk.Disk{made(t, 2), opened(t, full('a'), full('b'))} {
		for i := range 200 {
			if e := d.Write(i%2, full('c')); e != api.OK {
				t.Fatalf("step %d: %d", 2*i, e)
			}
			if e := d.Sync(); e != api.OK {
				t.Fatalf("step %d: %d", 2*i+1, e)
			}
		}
		if d.Steps() != 400 {
			t.Errorf("%d steps", d.Steps())
		}
	}
}

// P6.2

// TestWritten: what was written last is read, what stays is what was there at the last Sync.
func TestWritten(t *testing.T) {
	d := opened(t, wide('a'), wide('b'), wide('c'))
	fine(t, d.Write(2, wide('d')), d.Write(0, wide('e')), d.Write(2, wide('f')))
	for n, want := range []string{wide('e'), wide('b'), wide('f')} {
		if s, e := d.Read(n); s != want || e != api.OK {
			t.Errorf("Read(%d): %q, %d", n, s, e)
		}
	}
	if d.Image() != wide('a')+wide('b')+wide('c') || d.Loose() != 2 || d.Steps() != 3 {
		t.Errorf("there stays %q; %d are loose, %d steps", d.Image(), d.Loose(), d.Steps())
	}
	fine(t, d.Sync())
	if d.Image() != wide('e')+wide('b')+wide('f') || d.Loose() != 0 || d.Steps() != 4 {
		t.Errorf("behind Sync there stays %q; %d are loose, %d steps", d.Image(), d.Loose(), d.Steps())
	}
	fine(t, d.Write(1, wide('g')), d.Write(0, wide('h')))
	if d.Image() != wide('e')+wide('b')+wide('f') || d.Loose() != 2 || d.Steps() != 6 {
		t.Errorf("behind the next Writes there stays %q; %d are loose, %d steps", d.Image(), d.Loose(), d.Steps())
	}
}

// TestTheSameWritten: what is written is loose, also if it is what stays.
func TestTheSameWritten(t *testing.T) {
	d := opened(t, full('a'), full('b'))
	fine(t, d.Write(0, full('a')), d.Write(1, full('c')))
	if d.Loose() != 2 || d.Steps() != 2 {
		t.Errorf("%d are loose, %d steps", d.Loose(), d.Steps())
	}
	fine(t, d.Crash("\x01"))
	if d.Image() != full('a')+full('b') {
		t.Errorf("there stays %q", d.Image())
	}
	d.Revive()
	fine(t, d.Write(0, full('a')), d.Write(1, full('c')), d.Crash("\x02"))
	if d.Image() != full('a')+full('c') {
		t.Errorf("there stays %q", d.Image())
	}
}

// TestRefused: the errors in their order; what is refused is no step, and changes nothing.
func TestRefused(t *testing.T) {
	long := []string{"", "x", full('x')[1:], full('x') + "x", full('x') + full('x'), strings.Repeat("x", 1<<20)}
	none := []int{-1, -64, 3, 4, 64, 1 << 20, 1 << 32, 1 << 58, math.MinInt, math.MaxInt}
	d := opened(t, full('a'), full('b'), full('c'))
	m := newModel(full('a'), full('b'), full('c'))
	hold(t, d, m, []call{{callWrite, 2, full('d')}, {callWrite, 0, full('e')}, {callBad, 0, ""}, {callBad, 1, ""}, {callArm, 2, "\x02"}})
	tries := func(dead bool) {
		or := func(e api.Errno) api.Errno {
			if dead {
				return api.ErrDead
			}
			return e
		}
		check := func(name string, e, want api.Errno) {
			t.Helper()
			if e != or(want) {
				t.Errorf("dead: %t: %s: %d, not %d", dead, name, e, or(want))
			}
			if s := other(d, m); s != "" {
				t.Fatalf("dead: %t: behind %s: %s", dead, name, s)
			}
		}
		for _, n := range none {
			s, e := d.Read(n)
			check(fmt.Sprintf("Read(%d) %q", n, s), e, api.ErrDiskAt)
			for _, s := range append(long, full('x')) {
				check(fmt.Sprintf("Write(%d) of %d", n, len(s)), d.Write(n, s), api.ErrDiskAt)
			}
			check(fmt.Sprintf("Bad(%d)", n), d.Bad(n, true), api.ErrDiskAt)
			check(fmt.Sprintf("not Bad(%d)", n), d.Bad(n, false), api.ErrDiskAt)
		}
		for n := range 3 {
			for _, s := range long {
				check(fmt.Sprintf("Write(%d) of %d", n, len(s)), d.Write(n, s), api.ErrArg)
			}
		}
		for n := range 2 {
			check(fmt.Sprintf("Write(%d)", n), d.Write(n, full('x')), api.ErrIO)
			s, e := d.Read(n)
			if s != "" {
				t.Errorf("Read(%d): %q", n, s)
			}
			check(fmt.Sprintf("Read(%d)", n), e, api.ErrIO)
		}
		for _, n := range []int{-1, -2, math.MinInt} {
			check(fmt.Sprintf("Arm(%d)", n), d.Arm(n, "\x01"), api.ErrArg)
		}
	}
	tries(false)
	hold(t, d, m, []call{{callSync, 0, ""}, {callWrite, 2, full('f')}}) // the power goes, as none of these was a step
	if !d.Dead() {
		t.Fatal("the power is there")
	}
	tries(true)
	hold(t, d, m, []call{{callSync, 0, ""}, {callCrash, 0, "\x01"}, {callArm, 0, ""}, {callArm, 1, "\x01"}, {callBad, 2, ""}, {callGood, 1, ""}})
	d.Revive()
	m.dead = false
	if s := other(d, m); s != "" {
		t.Errorf("behind Revive: %s", s)
	}
}

// TestBad: a sector that is bad keeps its bytes, loose or not, and is bad till it is told otherwise.
func TestBad(t *testing.T) {
	d, m := opened(t, full('a'), full('b'), full('c')), newModel(full('a'), full('b'), full('c'))
	hold(t, d, m, []call{
		{callWrite, 1, full('d')}, {callBad, 1, ""}, {callBad, 1, ""}, {callWrite, 1, full('e')}, {callGood, 1, ""}, {callGood, 1, ""}, {callGood, 0, ""},
		{callBad, 0, ""}, {callBad, 1, ""}, {callSync, 0, ""}, {callWrite, 2, full('f')}, {callGood, 1, ""}, {callWrite, 1, full('g')},
		{callBad, 2, ""}, {callBad, 1, ""}, {callCrash, 0, "\x03"}, {callRevive, 0, ""}, {callWrite, 2, full('h')},
		{callGood, 2, ""}, {callGood, 1, ""}, {callGood, 0, ""}, {callWrite, 0, full('i')},
	})
	if d.Image() != full('a')+full('g')+full('f') {
		t.Errorf("there stays %q", d.Image())
	}
}

// TestBadIsOne: no sector but the one that is named.
func TestBadIsOne(t *testing.T) {
	d := made(t, most)
	for _, n := range []int{0, 1, 7, 8, 9, 63, 64, 4095, 4096, 8191, most - 2, most - 1} {
		fine(t, d.Bad(n, true))
		for i := max(0, n-70); i < min(n+70, most); i++ {
			want := api.OK
			if i == n {
				want = api.ErrIO
			}
			if _, e := d.Read(i); e != want {
				t.Errorf("%d is bad: Read(%d): %d", n, i, e)
			}
			if e := d.Write(i, full('x')); e != want {
				t.Errorf("%d is bad: Write(%d): %d", n, i, e)
			}
		}
		fine(t, d.Bad(n, false))
	}
}

// P6.3

// TestCrash: the loose sectors that are chosen are counted in the order in which each was first written.
func TestCrash(t *testing.T) {
	for _, x := range []struct {
		writes []int // the k-th one, from 0 on, writes the byte 'a' and k
		keep   string
		want   string // a byte of each sector; '-' of noughts
	}{
		{nil, "", "---"},
		{nil, "\xff", "---"},
		{[]int{1}, "", "---"},
		{[]int{1}, "\x01", "-a-"},
		{[]int{1}, "\x02", "---"},
		{[]int{1, 0}, "\x01", "-a-"},
		{[]int{1, 0}, "\x02", "b--"},
		{[]int{1, 0}, "\x03", "ba-"},
		{[]int{1, 0}, "\xfc\xff", "---"},
		{[]int{1, 0, 1}, "\x01", "-c-"},
		{[]int{1, 0, 1}, "\x02", "b--"},
		{[]int{1, 0, 1}, "\x04", "---"},
		{[]int{2, 0, 1, 2, 0}, "\x01", "--d"},
		{[]int{2, 0, 1, 2, 0}, "\x02", "e--"},
		{[]int{2, 0, 1, 2, 0}, "\x04\x00\x00", "-c-"},
		{[]int{2, 0, 1, 2, 0}, "\x07", "ecd"},
		{[]int{2, 0, 1, 2, 0}, "\xfb\xff", "e-d"},
		{[]int{2, 2, 2, 2, 2}, "\x10", "---"},
		{[]int{2, 2, 2, 2, 2}, "\x01", "--e"},
	} {
		d := made(t, 3)
		for k, n := range x.writes {
			fine(t, d.Write(n, full('a'+byte(k))))
		}
		if e := d.Crash(x.keep); e != api.OK || !d.Dead() || d.Loose() != 0 || d.Steps() != len(x.writes) {
			t.Errorf("%d, %q: %d, dead: %t, %d are loose, %d steps", x.writes, x.keep, e, d.Dead(), d.Loose(), d.Steps())
		}
		want := ""
		for i := range 3 {
			want += strings.ReplaceAll(full(x.want[i]), "-", "\x00")
		}
		if s := d.Image(); s != want {
			t.Errorf("%d, %q: %q, not %q", x.writes, x.keep, s, want)
		}
		d.Revive()
		for n := range 3 {
			if s, e := d.Read(n); s != want[64*n:][:64] || e != api.OK {
				t.Errorf("%d, %q: Read(%d): %q, %d", x.writes, x.keep, n, s, e)
			}
		}
	}
}

// TestCrashOfMany: places are counted as far as there are sectors.
func TestCrashOfMany(t *testing.T) {
	chance := rand.New(rand.NewSource(63))
	for _, sectors := range []int{9, 64, 300, most} {
		d := made(t, sectors)
		order := chance.Perm(sectors)
		for _, n := range order {
			fine(t, d.Write(n, full('x')))
		}
		for _, n := range order[sectors/2:] {
			fine(t, d.Write(n, wide(byte(n))))
		}
		keep := make([]byte, most/8)
		chance.Read(keep)
		if d.Loose() != sectors {
			t.Errorf("%d of %d are loose", d.Loose(), sectors)
		}
		want := make([]string, sectors)
		for place, n := range order {
			switch {
			case !has(string(keep), place):
				want[n] = noughts(1)
			case place < sectors/2:
				want[n] = full('x')
			default:
				want[n] = wide(byte(n))
			}
		}
		fine(t, d.Crash(string(keep)))
		if d.Image() != strings.Join(want, "") {
			t.Errorf("of %d there stay others than those that were chosen", sectors)
		}
	}
}

// TestOrderBegins: it begins anew behind a Sync, and behind a crash.
func TestOrderBegins(t *testing.T) {
	d, m := made(t, 3), newModel(noughts(1), noughts(1), noughts(1))
	hold(t, d, m, []call{
		{callWrite, 0, full('a')}, {callWrite, 1, full('b')}, {callSync, 0, ""},
		{callWrite, 1, full('c')}, {callWrite, 0, full('d')}, {callCrash, 0, "\x01"}, {callRevive, 0, ""},
		{callWrite, 2, full('e')}, {callWrite, 1, full('f')}, {callCrash, 0, "\x02"}, {callRevive, 0, ""},
	})
	if d.Image() != full('a')+full('f')+noughts(1) {
		t.Errorf("there stays %q", d.Image())
	}
}

// TestArmed: the power goes in just the step that was named, of a Write when its sector is loose, of a Sync ahead of it.
func TestArmed(t *testing.T) {
	row := []call{{callWrite, 1, full('a')}, {callWrite, 0, full('b')}, {callWrite, 1, full('c')}, {callSync, 0, ""}, {callWrite, 2, full('d')}, {callWrite, 1, full('e')}, {callSync, 0, ""}}
	for n := 1; n <= len(row)+1; n++ {
		for keep := range 8 {
			d := opened(t, full('0'), full('1'), full('2'))
			fine(t, d.Arm(n, string([]byte{byte(keep)})))
			if d.Steps() != 0 || d.Dead() {
				t.Fatalf("Arm(%d): %d steps, dead: %t", n, d.Steps(), d.Dead())
			}
			for k, x := range row[:min(n, len(row))] {
				want := api.OK
				if k+1 == n {
					want = api.ErrDead
				}
				if e := x.on(d); e != want || d.Dead() != (want != api.OK) || d.Steps() != k+1 {
					t.Errorf("Arm(%d): step %d: %d, dead: %t, %d steps", n, k+1, e, d.Dead(), d.Steps())
				}
			}
			if s := d.Image(); s != stays(row, n, keep) {
				t.Errorf("Arm(%d, %b): %q, not %q", n, keep, s, stays(row, n, keep))
			}
			if n <= len(row) && d.Loose() != 0 {
				t.Errorf("Arm(%d): %d are loose", n, d.Loose())
			}
		}
	}
}

// stays is what stays of the sectors 0, 1, 2 if the power goes in the n-th step of a row.
func stays(row []call, n, keep int) string {
	m := newModel(full('0'), full('1'), full('2'))
	for k, x := range row {
		if k+1 == n {
			if x.kind == callWrite {
				x.told(m)
			}
			m.goes(string([]byte{byte(keep)}))
			break
		}
		x.told(m)
	}
	return strings.Join(m.stays, "")
}

// TestArmedAnew: a later Arm takes the place of an earlier one, one of 0 that of any; one that is refused does not.
func TestArmedAnew(t *testing.T) {
	sector := full('x')
	for name, x := range map[string]struct {
		calls []call
		want  int    // the Write in which the power goes, from 1 on; 0 of none
		stays string // which sectors are x then
	}{
		"once":                 {[]call{{callArm, 3, "\x05"}}, 3, "x-x"},
		"later":                {[]call{{callArm, 1, "\x01"}, {callArm, 3, "\x02"}}, 3, "-x-"},
		"earlier":              {[]call{{callArm, 3, "\x01"}, {callArm, 1, ""}}, 1, "---"},
		"sooner":               {[]call{{callArm, 3, "\x01"}, {callArm, 2, "\x03"}}, 2, "xx-"},
		"not":                  {[]call{{callArm, 0, "\x01"}}, 0, ""},
		"not any more":         {[]call{{callArm, 2, "\x01"}, {callArm, 0, "\x02"}}, 0, ""},
		"again":                {[]call{{callArm, 2, "\x01"}, {callArm, 0, "\x02"}, {callArm, 3, "\x04"}}, 3, "--x"},
		"below 0":              {[]call{{callArm, 2, "\x02"}, {callArm, -1, "\x01"}}, 2, "-x-"},
		"below 0 alone":        {[]call{{callArm, -2, "\x01"}}, 0, ""},
		"far":                  {[]call{{callArm, math.MaxInt, "\x01"}}, 0, ""},
		"alive, revived":       {[]call{{callArm, 2, "\x01"}, {callRevive, 0, ""}}, 0, ""},
		"dead, revived":        {[]call{{callArm, 2, "\x01"}, {callCrash, 0, ""}, {callRevive, 0, ""}}, 0, ""},
		"armed dead":           {[]call{{callCrash, 0, ""}, {callArm, 2, "\x01"}, {callRevive, 0, ""}}, 0, ""},
		"gone, revived":        {[]call{{callArm, 1, "\x01"}, {callSync, 0, ""}, {callRevive, 0, ""}}, 0, ""},
		"behind steps":         {[]call{{callSync, 0, ""}, {callSync, 0, ""}, {callArm, 2, "\x01"}}, 2, "x--"},
		"steps between":        {[]call{{callArm, 4, "\x02"}, {callSync, 0, ""}, {callSync, 0, ""}}, 2, "-x-"},
		"refused between":      {[]call{{callArm, 2, "\x02"}, {callWrite, 3, sector}, {callWrite, 0, "x"}, {callBad, 0, ""}, {callWrite, 0, sector}, {callGood, 0, ""}}, 2, "-x-"},
		"sets of noughts":      {[]call{{callArm, 3, "\x00\x00"}}, 3, "---"},
		"sets of greater ones": {[]call{{callArm, 3, "\xff\xff"}}, 3, "xxx"},
	} {
		d := made(t, 3)
		for _, c := range x.calls {
			c.on(d)
		}
		for n := range 3 {
			want := api.OK
			if x.want != 0 && n+1 >= x.want {
				want = api.ErrDead
			}
			if e := d.Write(n, sector); e != want {
				t.Errorf("%s: Write %d: %d, not %d", name, n+1, e, want)
			}
		}
		if x.want == 0 {
			fine(t, d.Sync())
			x.stays = "xxx"
		}
		got := ""
		for n := range 3 {
			switch d.Image()[64*n:][:64] {
			case sector:
				got += "x"
			case noughts(1):
				got += "-"
			}
		}
		if got != x.stays {
			t.Errorf("%s: there stay %s, not %s", name, got, x.stays)
		}
	}
}

// TestTorn: a sector that was loose ahead of the Write in which the power goes has its old place, and what was written last.
func TestTorn(t *testing.T) {
	for keep, want := range map[string]string{
		"":     full('0') + full('1'),
		"\x01": full('c') + full('1'),
		"\x02": full('0') + full('b'),
		"\x03": full('c') + full('b'),
		"\x04": full('0') + full('1'),
	} {
		d := opened(t, full('0'), full('1'))
		fine(t, d.Write(0, full('a')), d.Write(1, full('b')), d.Arm(1, keep))
		if e := d.Write(0, full('c')); e != api.ErrDead || d.Image() != want {
			t.Errorf("%q: %d, %q", keep, e, d.Image())
		}
	}
}

// TestRevive: what stays is read, sectors are bad as they were, steps are counted on.
func TestRevive(t *testing.T) {
	d := opened(t, full('a'), full('b'))
	d.Revive()
	fine(t, d.Write(0, full('c')))
	d.Revive() // the power is there: what is loose stays so
	if s, e := d.Read(0); s != full('c') || e != api.OK || d.Loose() != 1 || d.Steps() != 1 || d.Dead() {
		t.Errorf("Read: %q, %d; %d are loose, %d steps, dead: %t", s, e, d.Loose(), d.Steps(), d.Dead())
	}
	fine(t, d.Bad(1, true), d.Crash(""))
	d.Revive()
	d.Revive()
	if s, e := d.Read(0); s != full('a') || e != api.OK || d.Dead() || d.Steps() != 1 {
		t.Errorf("Read: %q, %d; dead: %t, %d steps", s, e, d.Dead(), d.Steps())
	}
	if _, e := d.Read(1); e != api.ErrIO {
		t.Errorf("Read of the bad one: %d", e)
	}
	fine(t, d.Sync(), d.Write(0, full('d')), d.Sync(), d.Crash("\xff"))
	if d.Image() != full('d')+full('b') || d.Steps() != 4 {
		t.Errorf("there stays %q; %d steps", d.Image(), d.Steps())
	}
}

// P6.4

// TestClone: it is in the same state in each that a disk can be in, and goes its own way.
func TestClone(t *testing.T) {
	for name, x := range map[string][]call{
		"new":        nil,
		"loose":      {{callWrite, 1, full('x')}, {callWrite, 0, full('y')}, {callWrite, 1, full('z')}},
		"synced":     {{callWrite, 1, full('x')}, {callSync, 0, ""}},
		"bad":        {{callBad, 0, ""}, {callBad, 2, ""}, {callWrite, 1, full('x')}},
		"armed":      {{callWrite, 2, full('x')}, {callArm, 3, "\x02"}, {callWrite, 1, full('y')}},
		"dead":       {{callWrite, 2, full('x')}, {callWrite, 1, full('y')}, {callCrash, 0, "\x02"}},
		"armed dead": {{callWrite, 2, full('x')}, {callArm, 1, "\x02"}, {callWrite, 1, full('y')}},
		"revived":    {{callWrite, 2, full('x')}, {callArm, 1, "\x02"}, {callWrite, 1, full('y')}, {callRevive, 0, ""}},
	} {
		ways := [][]call{
			{{callWrite, 0, full('1')}, {callWrite, 2, full('2')}, {callSync, 0, ""}, {callRevive, 0, ""}, {callGood, 0, ""}, {callWrite, 0, full('3')}},
			{{callWrite, 1, full('4')}, {callBad, 1, ""}, {callWrite, 0, full('5')}, {callCrash, 0, "\x02"}, {callRevive, 0, ""}, {callWrite, 2, full('6')}, {callArm, 1, "\x01"}},
			{{callSync, 0, ""}, {callSync, 0, ""}, {callSync, 0, ""}, {callArm, 0, ""}, {callGood, 0, ""}, {callGood, 2, ""}, {callArm, 2, ""}},
		}
		d, m := opened(t, full('a'), full('b'), full('c')), newModel(full('a'), full('b'), full('c'))
		hold(t, d, m, x)
		disks, models := []*disk.Disk{d}, []*model{m}
		for range len(ways) - 1 {
			disks, models = append(disks, disks[len(disks)-1].Clone()), append(models, m.clone())
		}
		for turn := range ways {
			for i := range disks {
				for k, c := range ways[(i+turn)%len(ways)] {
					if e, want := c.on(disks[i]), c.told(models[i]); e != want {
						t.Fatalf("%s: disk %d, turn %d, call %d: %d, not %d", name, i, turn, k, e, want)
					}
					for j := range disks {
						if s := other(disks[j], models[j]); s != "" {
							t.Fatalf("%s: disk %d, turn %d, call %d: disk %d: %s", name, i, turn, k, j, s)
						}
					}
				}
			}
		}
	}
}

// P6.1 to P6.4, all together

// smallCalls are all that differ on a disk of two sectors; what is written tells of the place in the row.
func smallCalls(place int) []call {
	s := full('a' + byte(place))
	return []call{
		{callWrite, 0, s}, {callWrite, 1, s}, {callSync, 0, ""}, {callBad, 0, ""}, {callGood, 0, ""},
		{callArm, 0, "\x03"}, {callArm, 1, "\x02"}, {callArm, 2, "\x01"}, {callArm, 2, "\x02"}, {callArm, 3, "\x03"},
		{callCrash, 0, ""}, {callCrash, 0, "\x01"}, {callCrash, 0, "\x02"}, {callCrash, 0, "\x03"}, {callRevive, 0, ""},
	}
}

// TestAllRows: each row of five calls on a disk of two sectors; each is another one's clone.
func TestAllRows(t *testing.T) {
	var goOn func(d *disk.Disk, m *model, ahead []call)
	goOn = func(d *disk.Disk, m *model, ahead []call) {
		if s := other(d, m); s != "" {
			t.Fatalf("behind %v: %s", ahead, s)
		}
		if len(ahead) == 5 {
			return
		}
		for _, x := range smallCalls(len(ahead)) {
			c, n := d.Clone(), m.clone()
			if e, want := x.on(c), x.told(n); e != want {
				t.Fatalf("behind %v: %v: %d, not %d", ahead, x, e, want)
			}
			goOn(c, n, append(slices.Clone(ahead), x))
		}
		if s := other(d, m); s != "" {
			t.Fatalf("behind %v, and what became of its clones: %s", ahead, s)
		}
	}
	goOn(opened(t, full('0'), full('1')), newModel(full('0'), full('1')), nil)
}

// TestRowsOfOneDisk: each row of three calls, without clones.
func TestRowsOfOneDisk(t *testing.T) {
	kinds := len(smallCalls(0))
	for row := range kinds * kinds * kinds {
		d, m := opened(t, full('0'), full('1')), newModel(full('0'), full('1'))
		hold(t, d, m, []call{smallCalls(0)[row%kinds], smallCalls(1)[row/kinds%kinds], smallCalls(2)[row/kinds/kinds]})
	}
}

// some is a call by chance on a disk of so many sectors; most are Writes, so that many are loose.
func some(chance *rand.Rand, sectors int) call {
	keep := make([]byte, chance.Intn(4))
	chance.Read(keep)
	n := chance.Intn(sectors)
	if chance.Intn(50) == 0 {
		n = []int{-1, sectors, math.MaxInt, math.MinInt}[chance.Intn(4)]
	}
	s := wide(byte(chance.Intn(256)))
	if chance.Intn(50) == 0 {
		s = s[chance.Intn(64):]
	}
	switch roll := chance.Intn(100); {
	case roll < 60:
		return call{callWrite, n, s}
	case roll < 70:
		return call{callSync, 0, ""}
	case roll < 74:
		return call{callBad, n, ""}
	case roll < 80:
		return call{callGood, n, ""}
	case roll < 86:
		return call{callArm, chance.Intn(15) - 1, string(keep)}
	case roll < 90:
		return call{callCrash, 0, string(keep)}
	}
	return call{callRevive, 0, ""}
}

// TestLongRows: long rows of calls on greater disks, which now and then are their clones.
func TestLongRows(t *testing.T) {
	chance := rand.New(rand.NewSource(6))
	for range 200 {
		sectors := 1 + chance.Intn(24)
		var bytes []string
		for range sectors {
			bytes = append(bytes, wide(byte(chance.Intn(256))))
		}
		d, m := opened(t, bytes...), newModel(bytes...)
		for range 10 {
			var calls []call
			for range 40 {
				calls = append(calls, some(chance, sectors))
			}
			hold(t, d, m, calls)
			c := d.Clone()
			d.Revive()
			d.Crash("")
			d = c
		}
	}
}

// FuzzCalls makes whatever calls bytes say, three bytes each.
func FuzzCalls(f *testing.F) {
	f.Add(uint8(2), "\x00\x00a\x00\x01b\x05\x00\x01\x06\x00\x00")
	f.Add(uint8(5), "\x04\x02\x03\x00\x00a\x01\x00\x00\x06\x00\x00\x02\x01\x00\x00\x01a")
	f.Fuzz(func(t *testing.T, sectors uint8, s string) {
		var bytes []string
		for i := range 1 + int(sectors)%20 {
			bytes = append(bytes, wide(byte(i)))
		}
		var calls []call
		for i := 0; i+2 < min(len(s), 600); i += 3 {
			x := call{int(s[i]) % callKinds, int(int8(s[i+1])), s[i+2 : i+3]}
			if x.kind == callWrite {
				x.s = wide(s[i+2])[int(s[i])/250:]
			}
			calls = append(calls, x)
		}
		hold(t, opened(t, bytes...), newModel(bytes...), calls)
	})
}

// P6.5

// TestCrashByCrash: wherever the power goes, and whatever is kept: each sector is what it was at the last Sync, or what was written last.
func TestCrashByCrash(t *testing.T) {
	chance := rand.New(rand.NewSource(65))
	for range 40 {
		const sectors = 5
		ahead := make([]string, sectors)
		for n := range ahead {
			ahead[n] = full('A' + byte(n))
		}
		var row []call
		for k := range 12 {
			x := call{callWrite, chance.Intn(sectors), full('a' + byte(k))}
			if chance.Intn(4) == 0 {
				x = call{callSync, 0, ""}
			}
			row = append(row, x)
		}
		for n := 1; n <= len(row); n++ {
			for keep := range 1 << sectors {
				crashIn(t, ahead, row, n, keep)
			}
		}
	}
}

// crashIn lets the power go in the n-th step of a row, all of which are told without a model.
func crashIn(t *testing.T, ahead []string, row []call, n, keep int) {
	t.Helper()
	d := opened(t, ahead...)
	fine(t, d.Arm(n, string([]byte{byte(keep)})))
	synced, last, order := slices.Clone(ahead), slices.Clone(ahead), []int{}
	for k, x := range row[:n] {
		want := api.OK
		if k == n-1 {
			want = api.ErrDead
		}
		if e := x.on(d); e != want {
			t.Fatalf("%v: step %d: %d", row[:n], k, e)
		}
		switch {
		case x.kind == callWrite:
			last[x.n] = x.s
			if !slices.Contains(order, x.n) {
				order = append(order, x.n)
			}
		case want == api.OK:
			synced, order = slices.Clone(last), nil
		}
	}
	image := d.Image()
	d.Revive()
	for i := range ahead {
		s, e := d.Read(i)
		if e != api.OK || s != image[64*i:][:64] {
			t.Fatalf("%v: Read(%d): %d, %q", row[:n], i, e, s)
		}
		want := synced[i]
		if place := slices.Index(order, i); place >= 0 && keep>>place&1 == 1 {
			want = last[i]
		}
		if s != want {
			t.Fatalf("%v, keep %b: sector %d is %q, not %q", row[:n], keep, i, s, want)
		}
		if keep == 0 && s != synced[i] {
			t.Fatalf("%v: nothing is kept, and sector %d is %q", row[:n], i, s)
		}
	}
}

// The examples.

func TestExamples(t *testing.T) {
	x, y := full('x'), full('y')
	d := made(t, 2)
	fine(t, d.Write(1, x))
	if d.Image() != noughts(2) {
		t.Errorf("behind Write: %q", d.Image())
	}
	fine(t, d.Crash(""))
	if d.Image() != noughts(2) {
		t.Errorf("behind the crash of nothing: %q", d.Image())
	}
	d = made(t, 2)
	fine(t, d.Write(1, x), d.Write(0, y), d.Crash("\x01"))
	if d.Image() != noughts(1)+x {
		t.Errorf("behind the crash of 0: %q", d.Image())
	}
}

// R4, R5, and what is kept

// TestAnswersStay: what was answered is the same behind later calls.
func TestAnswersStay(t *testing.T) {
	d := opened(t, full('a'), full('b'))
	image := d.Image()
	kept, _ := d.Read(0)
	fine(t, d.Write(0, full('c')))
	loose, _ := d.Read(0)
	fine(t, d.Write(0, full('d')), d.Sync(), d.Write(0, full('e')), d.Write(1, full('f')), d.Crash("\x03"))
	if image != full('a')+full('b') || kept != full('a') || loose != full('c') {
		t.Errorf("%q, %q, %q", image, kept, loose)
	}
}

// TestDisksApart: each goes its own way, also of one image.
func TestDisksApart(t *testing.T) {
	a, b := opened(t, full('a')), opened(t, full('a'))
	fine(t, a.Write(0, full('b')), a.Sync(), a.Bad(0, true), a.Arm(1, ""))
	if s, e := b.Read(0); s != full('a') || e != api.OK || b.Steps() != 0 || b.Sync() != api.OK {
		t.Errorf("%q, %d, %d steps", s, e, b.Steps())
	}
}

// taken is how much memory there is in use.
func taken() uint64 {
	var m runtime.MemStats
	runtime.GC()
	runtime.ReadMemStats(&m)
	return m.HeapAlloc
}

// TestKeepsLittle: not the texts of which a sector is a part, and not what would have been kept.
func TestKeepsLittle(t *testing.T) {
	for name, do := range map[string]func(d *disk.Disk, n int, long string){
		"loose":    func(d *disk.Disk, n int, long string) { d.Write(n, long[640:704]) },
		"disarmed": func(d *disk.Disk, n int, long string) { d.Arm(9, long); d.Arm(0, long) },
		"revived":  func(d *disk.Disk, n int, long string) { d.Arm(9, long); d.Revive() },
		"crashed":  func(d *disk.Disk, n int, long string) { d.Arm(9, long); d.Crash(long) },
		"fallen":   func(d *disk.Disk, n int, long string) { d.Arm(1, long); d.Sync() },
	} {
		var disks []*disk.Disk
		for range 40 {
			disks = append(disks, made(t, 40))
		}
		ahead := taken()
		for n, d := range disks {
			do(d, n, strings.Repeat(string(rune('a'+n)), 1<<20))
		}
		if now := taken(); now > ahead+10<<20 {
			t.Errorf("%s: %d bytes more", name, now-ahead)
		}
		runtime.KeepAlive(disks)
	}
}
