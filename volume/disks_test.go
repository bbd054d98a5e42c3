package volume_test

import (
	"fmt"
	"math/rand"
	"slices"
	"strings"
	"testing"

	"stillage/api"
	"stillage/blocks"
	"stillage/disk"
	"stillage/nvlog"
	"stillage/tables"
	"stillage/volume"
)

// untouched fails, if a disk is not as its clone was.
func untouched(t testing.TB, what string, d, was *disk.Disk) {
	t.Helper()
	if d.Image() != was.Image() || d.Loose() != was.Loose() || d.Steps() != was.Steps() || d.Dead() != was.Dead() {
		t.Fatalf("%s: the disk is another one", what)
	}
}

// TestFormatOfWrongDisks: nothing is written on either disk, whether they have power or not.
func TestFormatOfWrongDisks(t *testing.T) {
	for _, x := range []struct {
		sectors, log int
		want         api.Errno
	}{
		{1, 43, api.ErrVolumeForm}, {31, 43, api.ErrVolumeForm}, {32, 43, api.ErrVolumeForm}, {4 * 31, 43, api.ErrVolumeForm}, {4*32 - 1, 43, api.ErrVolumeForm},
		{4 * 32, 42, api.ErrVolumeForm}, {4 * 32, 1, api.ErrVolumeForm}, {4 * 32, 4, api.ErrVolumeForm}, {4 * 32, 5, api.ErrVolumeForm}, {4*32 - 1, 42, api.ErrVolumeForm},
		{16384, 42, api.ErrVolumeForm},
		{4 * 32, 43, api.OK}, {4*32 + 1, 43, api.OK}, {4*32 + 3, 44, api.OK}, {4 * 33, 45, api.OK}, {16384, 43, api.OK}, {16383, 16384, api.OK},
	} {
		for dead := range 4 {
			d, nv := scratched(t, x.sectors), scratched(t, x.log)
			if dead&1 != 0 {
				fine(t, d.Crash(""))
			}
			if dead&2 != 0 {
				fine(t, nv.Crash(""))
			}
			want := x.want
			if want == api.OK && dead > 0 {
				want = api.ErrDead
			}
			wasD, wasNV := d.Clone(), nv.Clone()
			v, e := volume.Format(d, nv)
			if e != want || (v == nil) != (e != api.OK) {
				t.Fatalf("%d sectors, a log of %d: %d, not %d", x.sectors, x.log, e, want)
			}
			if e != api.OK {
				untouched(t, "Format", d, wasD)
				untouched(t, "Format", nv, wasNV)
			} else if v.Map().Blocks() != x.sectors/4 {
				t.Errorf("%d blocks", v.Map().Blocks())
			}
		}
	}
}

// TestFormat: what stands behind it is as in the model, whatever stood there.
func TestFormat(t *testing.T) {
	for _, many := range []int{32, 33, 64, 240, 241, 1000, 4096} {
		p := newPair(t, many)
		p.holds(t)
		p.reaches(t, nil)
		q := p.mounted(t)
		q.holds(t)
		same(t, "the tree", q.v.Tree().Nodes(), []api.Node{{Num: 1, Dir: true, Links: 1, Data: "\x00"}})
		same(t, "the image", q.d.Image(), p.d.Image())
		same(t, "the log's image", q.nv.Image(), p.nv.Image())
	}
	p := newPair(t, 64)
	same(t, "the root", p.m.root(), "\x02\x06\x03\x01\x04\x40\x05\x01")
	if p.v.Number() != 2 || p.d.Loose() != 0 || p.nv.Loose() != 0 {
		t.Error(p.v.Number(), p.d.Loose(), p.nv.Loose())
	}
}

// TestFormatOfBadSectors: a sector that must be written and can't is told.
func TestFormatOfBadSectors(t *testing.T) {
	const many = 250
	used := 4 * (4 + shape(many))
	for n := range 4 * many {
		d, nv := scratched(t, 4*many), scratched(t, logSectors)
		fine(t, d.Bad(n, true))
		want := api.OK
		if n < 2 || n >= 4 && n < used {
			want = api.ErrIO
		}
		if v, e := volume.Format(d, nv); e != want || (v == nil) != (e != api.OK) {
			t.Fatalf("sector %d: %d, not %d", n, e, want)
		}
	}
	for n := range logSectors {
		d, nv := scratched(t, 4*many), scratched(t, logSectors)
		fine(t, nv.Bad(n, true))
		want := api.OK
		if n == 0 {
			want = api.ErrIO
		}
		if v, e := volume.Format(d, nv); e != want || (v == nil) != (e != api.OK) {
			t.Fatalf("the log's sector %d: %d, not %d", n, e, want)
		}
	}
}

// TestFormatCrashes: wherever the power goes in a Format, what is mounted then is the new volume, none, or all of the one that stood there.
func TestFormatCrashes(t *testing.T) {
	var olds []*pair
	for _, points := range []int{0, 1, 2, 3} {
		p := newPair(t, 40).lines(t, "make /a", "snap s")
		for range points {
			p.lines(t, "point")
		}
		olds = append(olds, p.lines(t, write("/a", 0, "old"), "make /b"))
	}
	// One whose root has the number that the new one gets, and records in its log.
	olds = append(olds, newPair(t, 40).lines(t, "make /a", "make /b"))
	chance := rand.New(rand.NewSource(3))
	kinds := map[string]int{}
	for _, old := range olds {
		was := told(t, old.v)
		for which := range 2 {
			for step, went := 1, true; went; step++ {
				for _, keep := range keeps(chance) {
					p := old.clone()
					fine(t, [...]*disk.Disk{p.d, p.nv}[which].Arm(step, keep))
					v, e := volume.Format(p.d, p.nv)
					if went = e != api.OK; !went {
						break
					}
					if v != nil || e != api.ErrDead {
						t.Fatalf("step %d of disk %d: %d", step, which, e)
					}
					p.d.Crash(keep)
					p.nv.Crash(keep)
					p.d.Revive()
					p.nv.Revive()
					v, e = volume.Mount(p.d, p.nv)
					switch {
					case v == nil && e == api.ErrVolumeForm:
						kinds["none"]++
					case e == api.OK && told(t, v) == was:
						kinds["old"]++
					case e == api.OK && len(v.Snaps()) == 0 && len(v.Tree().Nodes()) == 1:
						kinds["new"]++
						agrees(t, v, p.d, p.nv)
					default:
						t.Fatalf("step %d of disk %d: %d", step, which, e)
					}
				}
			}
		}
	}
	if kinds["none"] == 0 || kinds["old"] == 0 || kinds["new"] == 0 {
		t.Error(kinds)
	}
}

// TestFormatAnew: a volume is laid over another one.
func TestFormatAnew(t *testing.T) {
	p := newPair(t, 64).lines(t, "make /a", "snap s", "make /b", "point", "make /c")
	v, e := volume.Format(p.d, p.nv)
	fine(t, e)
	q := &pair{v, p.d, p.nv, newModel(64)}
	q.holds(t)
	q.mounted(t).holds(t)
	q.lines(t, "make /a", "snap s")
	q.holds(t)
}

// mounts fails, if Mount does not tell an error, or leaves the disks others.
func mounts(t testing.TB, what string, d, nv *disk.Disk, want api.Errno) {
	t.Helper()
	wasD, wasNV := d.Clone(), nv.Clone()
	v, e := volume.Mount(d, nv)
	if e != want || (v == nil) != (e != api.OK) {
		t.Fatalf("%s: %d, not %d", what, e, want)
	}
	if e != api.OK {
		untouched(t, what, d, wasD)
		untouched(t, what, nv, wasNV)
	}
}

// TestMountOfWrongDisks: what is no volume's disk, or no log's.
func TestMountOfWrongDisks(t *testing.T) {
	p := newPair(t, 40).lines(t, "make /a", "snap s", "make /b")
	mounts(t, "noughts", scratched(t, 160), p.nv.Clone(), api.ErrVolumeForm)
	mounts(t, "few blocks", scratched(t, 31), p.nv.Clone(), api.ErrVolumeForm)
	mounts(t, "no log", p.d.Clone(), scratched(t, 43), api.ErrVolumeForm)
	mounts(t, "few sectors", p.d.Clone(), scratched(t, 4), api.ErrVolumeForm)
	mounts(t, "turned about", p.nv.Clone(), p.d.Clone(), api.ErrVolumeForm)
	both := func(f func(d, nv *disk.Disk)) (d, nv *disk.Disk) {
		d, nv = p.d.Clone(), p.nv.Clone()
		f(d, nv)
		return d, nv
	}
	for what, x := range map[string]struct {
		f    func(d, nv *disk.Disk)
		want api.Errno
	}{
		"nothing":                         {func(d, nv *disk.Disk) {}, api.OK},
		"no power":                        {func(d, nv *disk.Disk) { d.Crash("") }, api.ErrDead},
		"no power of the log":             {func(d, nv *disk.Disk) { nv.Crash("") }, api.ErrDead},
		"a bad log":                       {func(d, nv *disk.Disk) { nv.Bad(0, true) }, api.ErrIO},
		"a bad record":                    {func(d, nv *disk.Disk) { nv.Bad(1+p.m.number%2*21, true) }, api.ErrIO},
		"a bad sector of none":            {func(d, nv *disk.Disk) { nv.Bad(2+p.m.number%2*21, true) }, api.OK},
		"a bad root":                      {func(d, nv *disk.Disk) { d.Bad(0, true); d.Bad(1, true) }, api.ErrIO},
		"a bad one, a log that is no log": {func(d, nv *disk.Disk) { d.Bad(0, true); d.Bad(1, true); nv.Write(0, strings.Repeat("x", 64)) }, api.ErrIO},
		"no volume, no power of the log": {func(d, nv *disk.Disk) {
			d.Write(0, strings.Repeat("x", 64))
			d.Write(1, strings.Repeat("x", 64))
			nv.Crash("")
		}, api.ErrVolumeForm},
		"a bad table, a log that is none": {func(d, nv *disk.Disk) { d.Bad(4*p.m.table.Root, true); nv.Write(0, strings.Repeat("x", 64)) }, api.ErrVolumeForm},
		"a bad table":                     {func(d, nv *disk.Disk) { d.Bad(4*p.m.table.Root+3, true) }, api.ErrIO},
		"a bad list":                      {func(d, nv *disk.Disk) { d.Bad(4*p.m.list.Root, true) }, api.ErrIO},
		"a bad map":                       {func(d, nv *disk.Disk) { d.Bad(4*p.m.mapped.Root+1, true) }, api.ErrIO},
		"a spoilt table":                  {func(d, nv *disk.Disk) { d.Write(4*p.m.table.Root, strings.Repeat("x", 64)) }, api.ErrVolumeForm},
		"a spoilt list":                   {func(d, nv *disk.Disk) { d.Write(4*p.m.list.Root+3, strings.Repeat("x", 64)) }, api.ErrVolumeForm},
		"a spoilt map":                    {func(d, nv *disk.Disk) { d.Write(4*p.m.mapped.Root, strings.Repeat("x", 64)) }, api.ErrVolumeForm},
		"spoilt entries":                  {func(d, nv *disk.Disk) { d.Write(4*p.m.inodes[1].Root, strings.Repeat("x", 64)) }, api.ErrVolumeForm},
		"bad entries":                     {func(d, nv *disk.Disk) { d.Bad(4*p.m.inodes[1].Root+2, true) }, api.ErrIO},
	} {
		d, nv := both(x.f)
		mounts(t, what, d, nv, x.want)
	}
}

// TestMountOfEachBlock: each block that the root names is needed, those of snapshots alone are not.
func TestMountOfEachBlock(t *testing.T) {
	p := newPair(t, 250).lines(t, "make /a")
	p.lines(t, appending("/a", 0, 1000, 1)...)
	p.lines(t, "snap s", write("/a", 0, text(500, 2)), "make /b", "point")
	plane, _ := p.v.Map().Plane(0)
	for vbn := 1; vbn < 250; vbn++ {
		own := len(plane) > vbn/8 && plane[vbn/8]>>(vbn%8)&1 == 1
		for i := range 4 {
			want := map[bool][2]api.Errno{true: {api.ErrIO, api.ErrVolumeForm}, false: {}}[own]
			d := p.d.Clone()
			fine(t, d.Bad(4*vbn+i, true))
			mounts(t, fmt.Sprint("block ", vbn, " is bad"), d, p.nv.Clone(), want[0])
			d = p.d.Clone()
			s, _ := d.Read(4*vbn + i)
			b := []byte(s)
			b[i*9] ^= 4
			fine(t, d.Write(4*vbn+i, string(b)))
			mounts(t, fmt.Sprint("block ", vbn, " is spoilt"), d, p.nv.Clone(), want[1])
		}
	}
}

// crafted lays a volume that somebody else might have laid: a root, and what stands in blocks.
func crafted(t testing.TB, many int, root string, payloads map[int]string) *disk.Disk {
	t.Helper()
	d := scratched(t, 4*many)
	v, e := blocks.Format(d, "")
	fine(t, e)
	for vbn, s := range payloads {
		fine(t, v.Write(vbn, s))
	}
	fine(t, v.Commit(root))
	return d
}

// logOf is a log of a number, with records.
func logOf(t testing.TB, gen int, records ...string) *disk.Disk {
	t.Helper()
	nv := scratched(t, logSectors)
	l, e := nvlog.Format(nv, gen)
	fine(t, e)
	for _, s := range records {
		fine(t, l.Append(s))
	}
	return nv
}

// parts are those of a small volume, as they can be laid.
type parts struct {
	inodes  []api.Inode
	entries map[int]string
	snaps   string
	planes  string
	numbers []int
	root    string // "": the numbers
}

// smallParts is a volume of 40 blocks with a file /a, the number 2, without bytes, and a snapshot s.
func smallParts(t testing.TB) *parts {
	list, e := tables.Snaps([]api.Snap{{Name: "s", Id: 1, Plane: 2, Table: api.Blob{Root: 2, Size: 11}}, {Name: "u", Id: 4, Plane: 1, Table: api.Blob{Root: 2, Size: 11}}})
	fine(t, e)
	m := []byte(strings.Repeat("\x00", 40))
	m[1], m[2], m[3], m[4] = 7, 7, 1, 1
	return &parts{
		inodes:  []api.Inode{{Num: 1, Dir: true, Links: 1, Blob: api.Blob{Root: 1, Size: 4}}, {Num: 2, Links: 1}},
		entries: map[int]string{1: "\x01\x01a\x02"},
		snaps:   list,
		planes:  string(m),
		numbers: []int{2, 11, 3, len(list), 4, 40, 5, 5},
	}
}

// disk is one with these parts.
func (x *parts) disk(t testing.TB) *disk.Disk {
	t.Helper()
	table, e := tables.Inodes(x.inodes)
	fine(t, e)
	payloads := map[int]string{2: table, 3: x.snaps, 4: x.planes}
	for vbn, s := range x.entries {
		payloads[vbn] = s
	}
	root := x.root
	if root == "" {
		root = numbers(x.numbers...)
	}
	return crafted(t, 40, root, payloads)
}

// listOf makes these the snapshots.
func (x *parts) listOf(t testing.TB, l ...api.Snap) {
	s, e := tables.Snaps(l)
	fine(t, e)
	x.snaps, x.numbers[3] = s, len(s)
}

// TestMountOfOtherForms: a root, a map, a list or a tree that is none is told; what may be is mounted.
func TestMountOfOtherForms(t *testing.T) {
	table := api.Blob{Root: 2, Size: 11}
	for what, x := range map[string]struct {
		f    func(x *parts)
		want api.Errno
	}{
		"nothing":                     {func(x *parts) {}, api.OK},
		"the first place":             {func(x *parts) { x.numbers[6] = 1 }, api.OK},
		"the last place":              {func(x *parts) { x.numbers[6] = 40 }, api.OK},
		"no place":                    {func(x *parts) { x.numbers[6] = 0 }, api.ErrVolumeForm},
		"a place too great":           {func(x *parts) { x.numbers[6] = 41 }, api.ErrVolumeForm},
		"a great number":              {func(x *parts) { x.numbers[7] = 1 << 40 }, api.OK},
		"the greatest one":            {func(x *parts) { x.numbers[7] = 1<<40 + 1 }, api.OK},
		"a greater one":               {func(x *parts) { x.numbers[7] = 1<<40 + 2 }, api.ErrVolumeForm},
		"no next number":              {func(x *parts) { x.numbers[7] = 0; x.listOf(t) }, api.ErrVolumeForm},
		"the first next number":       {func(x *parts) { x.numbers[7] = 1; x.listOf(t) }, api.OK},
		"a next number that is there": {func(x *parts) { x.numbers[7] = 4 }, api.ErrVolumeForm},
		"a next number below one":     {func(x *parts) { x.numbers[7] = 2 }, api.ErrVolumeForm},
		"a root of nothing":           {func(x *parts) { x.root = "\x00" }, api.ErrVolumeForm},
		"a root too short":            {func(x *parts) { x.root = numbers(x.numbers[:7]...) }, api.ErrVolumeForm},
		"a root cut off":              {func(x *parts) { s := numbers(2, 11, 3, x.numbers[3], 4, 40, 5, 300); x.root = s[:len(s)-1] }, api.ErrVolumeForm},
		"a root too long":             {func(x *parts) { x.root = numbers(append(slices.Clone(x.numbers), 0)...) }, api.ErrVolumeForm},
		"a root with how many":        {func(x *parts) { x.root = numbers(append([]int{8}, x.numbers...)...) }, api.ErrVolumeForm},
		"a number of two digits":      {func(x *parts) { x.root = numbers(x.numbers[:7]...) + "\x85\x00" }, api.ErrVolumeForm},
		"a number too great":          {func(x *parts) { x.numbers[7] = 1 << 61 }, api.ErrVolumeForm},
		"no table":                    {func(x *parts) { x.numbers[0], x.numbers[1] = 0, 0 }, api.ErrVolumeForm},
		"a table of no block":         {func(x *parts) { x.numbers[0] = 40 }, api.ErrVolumeForm},
		"a table in the root's block": {func(x *parts) { x.numbers[0] = 0 }, api.ErrVolumeForm},
		"a table of another size":     {func(x *parts) { x.numbers[1] = 10 }, api.ErrVolumeForm},
		"a table too great":           {func(x *parts) { x.numbers[1] = 1 << 35 }, api.ErrVolumeForm},
		"a table that is a list":      {func(x *parts) { x.numbers[0], x.numbers[1] = 3, x.numbers[3] }, api.ErrVolumeForm},
		"no root in the tree":         {func(x *parts) { x.inodes = x.inodes[1:]; x.numbers[1] = 6 }, api.ErrVolumeForm},
		"no inodes":                   {func(x *parts) { x.inodes = nil; x.numbers[1] = 1 }, api.ErrVolumeForm},
		"a file without a name":       {func(x *parts) { x.entries[1] = "\x00"; x.inodes[0].Blob.Size = 1 }, api.ErrVolumeForm},
		"entries of another size":     {func(x *parts) { x.inodes[0].Blob.Size = 5 }, api.ErrVolumeForm},
		"entries of no block":         {func(x *parts) { x.inodes[0].Blob.Root = 39 }, api.ErrVolumeForm},
		"no list":                     {func(x *parts) { x.numbers[2], x.numbers[3] = 0, 0 }, api.ErrVolumeForm},
		"an empty list":               {func(x *parts) { x.snaps, x.numbers[3] = "\x00", 1 }, api.OK},
		"a list that is none":         {func(x *parts) { x.snaps, x.numbers[3] = "\x01\x00", 2 }, api.ErrVolumeForm},
		"a list of another size":      {func(x *parts) { x.numbers[3]-- }, api.ErrVolumeForm},
		"two snapshots of a name": {func(x *parts) {
			x.listOf(t, api.Snap{Name: "s", Id: 1, Plane: 1, Table: table}, api.Snap{Name: "s", Id: 2, Plane: 2, Table: table})
		}, api.ErrVolumeForm},
		"two snapshots of a plane": {func(x *parts) {
			x.listOf(t, api.Snap{Name: "s", Id: 1, Plane: 2, Table: table}, api.Snap{Name: "u", Id: 2, Plane: 1, Table: table}, api.Snap{Name: "w", Id: 3, Plane: 2, Table: table})
		}, api.ErrVolumeForm},
		"a snapshot of no blocks":     {func(x *parts) { x.listOf(t, api.Snap{Name: "s", Id: 1, Plane: 2, Table: api.Blob{Root: 38, Size: 9}}) }, api.OK},
		"no map":                      {func(x *parts) { x.numbers[4], x.numbers[5] = 0, 0 }, api.ErrVolumeForm},
		"a map of fewer blocks":       {func(x *parts) { x.planes, x.numbers[5] = x.planes[:39], 39 }, api.ErrVolumeForm},
		"a map of more blocks":        {func(x *parts) { x.planes, x.numbers[5] = x.planes+"\x00", 41 }, api.ErrVolumeForm},
		"a map of few blocks":         {func(x *parts) { x.planes, x.numbers[5] = x.planes[:7], 7 }, api.ErrVolumeForm},
		"a map with the root's block": {func(x *parts) { x.planes = "\x01" + x.planes[1:] }, api.ErrVolumeForm},
	} {
		p := smallParts(t)
		x.f(p)
		mounts(t, what, p.disk(t), logOf(t, 2), x.want)
	}
}

// TestMountOfCrafted: a volume that was laid by the document's words alone is told, and goes on.
func TestMountOfCrafted(t *testing.T) {
	x := smallParts(t)
	d, nv := x.disk(t), logOf(t, 2, "make /b", "write /b 0 616263")
	v, e := volume.Mount(d, nv)
	fine(t, e)
	same(t, "Snaps", v.Snaps(), []api.Snap{{Name: "s", Id: 1, Plane: 2, Table: api.Blob{Root: 2, Size: 11}}, {Name: "u", Id: 4, Plane: 1, Table: api.Blob{Root: 2, Size: 11}}})
	same(t, "Tree", v.Tree().Nodes(), []api.Node{{Num: 1, Dir: true, Links: 1, Data: "\x02\x01a\x02\x01b\x03"}, {Num: 2, Links: 1}, {Num: 3, Links: 1, Data: "abc"}})
	same(t, "Free, Number", []int{v.Free(), v.Number()}, []int{35, 2})
	same(t, "Map", v.Map().Text(), x.planes)
	agrees(t, v, d, nv)
	fine(t, v.Do(command(t, "snap w")))
	w := v.Snaps()[2]
	// Behind the place come the bytes of the root's entries (5), of /b (6), the table (7), the list (8), the map (9).
	same(t, "the new one", w, api.Snap{Name: "w", Id: 5, Plane: 3, Table: api.Blob{Root: 7, Size: 16}})
	b, e := blocks.Open(d.Clone())
	fine(t, e)
	root, n := b.Root()
	list, _ := tables.Snaps(v.Snaps())
	same(t, "the root", root, numbers(7, 16, 8, len(list), 9, 40, 10, 6))
	same(t, "Number", n, 3)
	same(t, "Map", v.Map().Text(), "\x00\x06\x06\x00\x00\x09\x09\x09\x01\x01"+strings.Repeat("\x00", 30))
	agrees(t, v, d, nv)
}

// TestLastNumber: behind a snapshot with the greatest number no other one is made, but all else is done.
func TestLastNumber(t *testing.T) {
	x := smallParts(t)
	x.numbers[7] = 1 << 40
	d, nv := x.disk(t), logOf(t, 2)
	v, e := volume.Mount(d, nv)
	fine(t, e, v.Do(command(t, "snap w")))
	for range 2 {
		l := v.Snaps()
		if len(l) != 3 || l[2].Id != 1<<40 {
			t.Fatal(l)
		}
		before := remembered(v)
		if e := v.Do(command(t, "snap x")); e == api.OK || v.Dead() {
			t.Fatal(e)
		}
		same(t, "what is told", remembered(v), before)
		fine(t, v.Do(command(t, "dir /d")), v.Point(), v.Do(command(t, "remove /d")), v.Point())
		agrees(t, v, d, nv)
		v, e = volume.Mount(d, nv)
		fine(t, e)
	}
	fine(t, v.Do(command(t, "unsnap w")))
	agrees(t, v, d, nv)
}

// TestMountOfLogs: records of the root's number are done again; others are gone, or make no volume.
func TestMountOfLogs(t *testing.T) {
	for what, x := range map[string]struct {
		nv    *disk.Disk
		want  api.Errno
		names string
	}{
		"no records":               {logOf(t, 2), api.OK, "a"},
		"records":                  {logOf(t, 2, "make /b", "dir /c", "rename /a /c/x", "write /b 0 6162"), api.OK, "b c"},
		"a number below":           {logOf(t, 1, "make /b"), api.OK, "a"},
		"a number far below":       {logOf(t, 0, "make /b"), api.OK, "a"},
		"a number below, no lines": {logOf(t, 1, "x", ""), api.OK, "a"},
		"a number above":           {logOf(t, 3), api.ErrVolumeForm, ""},
		"a number far above":       {logOf(t, 1<<40, "make /b"), api.ErrVolumeForm, ""},
		"no line":                  {logOf(t, 2, "make /b", "x"), api.ErrVolumeForm, ""},
		"an empty line":            {logOf(t, 2, ""), api.ErrVolumeForm, ""},
		"a line too much":          {logOf(t, 2, "make /b", "make /b"), api.ErrVolumeForm, ""},
		"a line of a snapshot":     {logOf(t, 2, "snap w"), api.ErrVolumeForm, ""},
		"a line of none":           {logOf(t, 2, "unsnap s"), api.ErrVolumeForm, ""},
	} {
		d := smallParts(t).disk(t)
		was := x.nv.Clone()
		mounts(t, what, d.Clone(), x.nv.Clone(), x.want)
		if x.want != api.OK {
			continue
		}
		v, e := volume.Mount(d, x.nv)
		fine(t, e)
		l, e := v.Tree().List("/")
		fine(t, e)
		same(t, what, strings.Join(l, " "), x.names)
		log, e := nvlog.Open(x.nv.Clone())
		fine(t, e)
		if log.Gen() != 2 || v.Number() != 2 || v.Dead() {
			t.Errorf("%s: the log has the number %d", what, log.Gen())
		}
		wasLog, _ := nvlog.Open(was)
		if wasLog.Gen() == 2 {
			same(t, "the log's image", x.nv.Image(), was.Image())
		} else if len(log.Records()) != 0 {
			t.Errorf("%s: records", what)
		}
		// What is done again is not noted again, and is there the next time.
		w, e := volume.Mount(d.Clone(), x.nv.Clone())
		fine(t, e)
		same(t, what, w.Tree().Nodes(), v.Tree().Nodes())
		fine(t, v.Do(command(t, "make /more")), v.Point())
		agrees(t, v, d, x.nv)
	}
	// The log can't be started.
	for step := 1; step <= 2; step++ {
		d, nv := smallParts(t).disk(t), logOf(t, 1, "make /b")
		fine(t, nv.Arm(step, ""))
		if v, e := volume.Mount(d, nv); v != nil || e != api.ErrDead {
			t.Errorf("%d", e)
		}
	}
	// A log of another size is one, too, if the line has room in it.
	d, nv := smallParts(t).disk(t), scratched(t, 5)
	_, e := nvlog.Format(nv, 2)
	fine(t, e)
	v, e := volume.Mount(d, nv)
	fine(t, e, v.Do(command(t, "make /b")), v.Do(command(t, "make /c")))
	if e := v.Do(command(t, write("/b", 0, text(200, 1)))); e == api.OK || v.Dead() {
		t.Error(e)
	}
	fine(t, v.Do(command(t, "make /d")), v.Point())
	agrees(t, v, d, nv)
}

// TestNoRoomForAPoint: of a volume that somebody else filled ErrNoSpace is told, and nothing is another one.
func TestNoRoomForAPoint(t *testing.T) {
	for used := 28; used <= 40; used++ {
		x := smallParts(t)
		m := []byte(x.planes)
		for vbn := 5; vbn < used; vbn++ {
			m[vbn] = 4
		}
		x.planes = string(m)
		d, nv := x.disk(t), logOf(t, 2, "make /b", write("/b", 0, text(500, 1)))
		v, e := volume.Mount(d, nv)
		fine(t, e)
		// The root's entries, three chunks and what points to them, the table, the map; the list is what it was.
		want := api.OK
		if 40-used < 7 {
			want = api.ErrNoSpace
		}
		before := remembered(v)
		if e := v.Point(); e != want || v.Dead() {
			t.Fatalf("%d free blocks: %d, not %d", 40-used, e, want)
		}
		same(t, "what is told", remembered(v), before)
		if want == api.OK {
			continue
		}
		same(t, "Free, Number", []int{v.Free(), v.Number()}, []int{40 - used, 2})
		for _, line := range []string{"make /c", "unsnap s", "snap w", "cut /b 0"} {
			if e := v.Do(command(t, line)); e != api.ErrNoSpace {
				t.Fatalf("%s with %d free blocks: %d", line, 40-used, e)
			}
		}
		same(t, "what is told", remembered(v), before)
		w, e := volume.Mount(d, nv)
		fine(t, e)
		same(t, "what is mounted", remembered(w), before)
	}
}
